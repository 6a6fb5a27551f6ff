/-
  LinkOrders.
-/
import Derived.Test.YtgdcocfekjlhfaaBm
import Derived.Test.YtgdcocfekjlhfaaBp
namespace Go.Proofs.Ytgdcocfekjlhfaa
open Go.RowKit
set_option linter.unusedVariables false
set_option linter.unusedSimpArgs false
set_option maxRecDepth 100000
def ordS (f2 : Int) (L : List ByteArray) (k : Nat) : List Pk := (L.take k).map fun b => (f2, b)
theorem ord_len {f2 : Int} {L : List ByteArray} {k : Nat} (h : k ≤ L.length) : (ordS f2 L k).length = k := by simp [ordS]; omega
theorem ord_next {f2 : Int} {L : List ByteArray} {k : Nat} {b : ByteArray} (h : L[k]? = some b) : ordS f2 L (k + 1) = ordS f2 L k ++ [(f2, b)] := by
  have hlt := (List.getElem?_eq_some_iff.1 h).1
  have e : L[k] = b := (List.getElem?_eq_some_iff.1 h).2
  unfold ordS
  rw [List.take_succ_eq_append_getElem hlt, e, List.map_append]; rfl
theorem send_ok0 {W : List Pk} (h : W.length < 500) (b : ByteArray) : (⟨W, false⟩ : LS).send 0 b = (⟨W ++ [(1, b)], false⟩, 0) := by
  unfold LS.send LS.add
  rw [if_neg (by decide), if_neg (by simp), if_neg (by simp only; omega)]; rfl
theorem send_ok1 {W : List Pk} (h : W.length < 500) (b : ByteArray) : (⟨W, false⟩ : LS).send 1 b = (⟨W ++ [(0, b)], false⟩, 0) := by
  unfold LS.send LS.add
  rw [if_neg (by decide), if_neg (by simp), if_neg (by simp only; omega)]; rfl
theorem deliver_no {W : List Pk} {n : Int} (h : ¬ (0 ≤ n ∧ n < W.length)) : (⟨W, false⟩ : LS).deliver n = (⟨W, false⟩, Pk.zero, 4) := by
  unfold LS.deliver
  rw [if_neg (fun e => h (LS.has_iff.1 e))]
theorem deliver_yes {W : List Pk} {m : Nat} {q : Pk} (h : W[m]? = some q) : (⟨W, false⟩ : LS).deliver m = (⟨W.take m ++ W.drop (m + 1), false⟩, q, 0) := by
  have hlt := (List.getElem?_eq_some_iff.1 h).1
  unfold LS.deliver
  rw [if_pos (LS.has_iff.2 ⟨by omega, by simpa using hlt⟩), LS.at_nat h]
  unfold LS.rem
  rw [← erase_split]; rfl
/-- The second loop's invariant. -/
def Inv2 (w : World) (p : Nat) (W : List Pk) (a : Option Addr) (c : Nat) (wr : World) : Prop := W.length ≤ 30 ∧ Tog w (fun _ => False) wr [kLink 53 p ⟨W, false⟩, kPks (.slice a W.length c) W]
set_option maxHeartbeats 4000000 in
/-- One turn of the second loop: what the two appends leave. -/
theorem cutOut {w wr : World} {W : List Pk} {a : Option Addr} {c m : Nat} {k : Kd} (hW : W.length ≤ 30) (hm : m < W.length) (T : Tog w (fun _ => False) wr [k, kPks (.slice a W.length c) W]) : ∃ gb, a = some ⟨gb, 0, none⟩ ∧ W.length ≤ c ∧
    Tog w (fun _ => False) (wr.alloc (.cells #[] 30)) [k, kPks (.slice (some ⟨gb, 0, none⟩) W.length c) W, kPks (.slice (some ⟨wr.heap.size, 0, none⟩) 0 0) []] ∧
    SrcAt (wr.alloc (.cells #[] 30)).drew (.slice (some ⟨gb, 0, none⟩) m c) (W.take m).length (pkCells (W.take m)) ∧
    (∀ a' c' w' o, (o = (m + 1) * 2 ∨ c = m + 1) → Tog w (fun _ => False) w' [k, kPks (.slice (some ⟨gb, 0, none⟩) W.length c) W, kPks (.slice a' m c') ([] ++ W.take m)] → SrcAt w' (.slice (some ⟨gb, o, none⟩) (W.length - (m + 1)) (c - (m + 1))) (W.drop (m + 1)).length (pkCells (W.drop (m + 1)))) ∧
    ∀ v' w', Tog w (fun _ => False) w' [k, kPks (.slice (some ⟨gb, 0, none⟩) W.length c) W, kPks v' ([] ++ W.take m ++ W.drop (m + 1))] → Tog w (fun _ => False) w' [k, kPks v' (W.take m ++ W.drop (m + 1))] := by
  obtain ⟨gb, cc, hv, _, _⟩ := T.pkAt (i := 1) rfl (List.getElem?_eq_getElem hm)
  obtain ⟨rfl, rfl⟩ : a = some ⟨gb, 0, none⟩ ∧ c = cc := by simpa using hv
  have hnc : W.length ≤ c := by
    rcases (T.rowAt (j := 1) rfl).2 with ⟨h0, _⟩ | ⟨g, cap, cur, hv, _, _, hnc, _⟩
    · simp at h0
    · obtain ⟨_, rfl⟩ : gb = g ∧ c = cap := by simpa using hv
      exact hnc
  have T1 : Tog w (fun _ => False) (wr.alloc (.cells #[] 30)) [k, kPks (.slice (some ⟨gb, 0, none⟩) W.length c) W, kPks (.slice (some ⟨wr.heap.size, 0, none⟩) 0 0) []] := T.made 30 2 0 #[] (by simp) (by unfold maxLen; omega)
  have ltk : (W.take m).length = m := by rw [List.length_take]; omega
  have ldr : (W.drop (m + 1)).length = W.length - (m + 1) := by simp
  refine ⟨gb, rfl, hnc, T1, ?_, fun a' c' w' o ho T2 => ?_, fun v' w' T2 => ?_⟩
  · rw [ltk]; exact src_take (T1.drew.srcPks (i := 1) rfl) m c
  · rw [ldr]
    rcases ho with rfl | ho
    · exact src_drop (T2.srcPks (i := 1) rfl) _ _ _
    · rw [show W.length - (m + 1) = 0 by omega]
      exact src_none _ _ _ _ (by omega)
  · rw [List.nil_append] at T2
    exact T2.pick [0, 2] (by decide) rfl
set_option maxHeartbeats 8000000 in
theorem orders_0 {a1 a2 : Option Addr} {c1 c2 : Nat} {L : List ByteArray} {K : List Int} (w : World) (h1 : RowsAt strCells1 (fun s => s.size ≤ maxLen) 1 w.heap.size w a1 L) (h2 : RowsAt intCells1 InI 1 w.heap.size w a2 K) (hL : L.length ≤ 30) (hK : K.length ≤ 30) :
    Calls Try.prog 5 #[.int .i64 0, .slice a1 L.length c1, .slice a2 K.length c2] w fun e w' => e = .returned (.bool true) ∧ Below w.heap.size w w' := by
  have SM := Lib.hid (small_any w)
  have NEW := Lib.hid (fun (w1 : World) (b : Below w.heap.size w w1) => ((Tog.nil w (fun _ => False)).on b).xnew)
  have FI : InI 0 := by unfold InI; omega
  have H1 := Lib.hid h1
  have H2 := Lib.hid h2
  have hLi : ¬ (30 : Int) < (L.length : Int) := by omega
  have hKi : ¬ (30 : Int) < (K.length : Int) := by omega
  clear h1 h2
  go_enter Try.func5, Try.ntmps5
  go_wp2_with (first
    | (go_at_call 7; refine SM.out.mono ?_; rintro e w1 ⟨rfl, t⟩; have N1 := Lib.hid (NEW.out w1 t); clear t SM)
    | (go_at_call 8; refine N1.out.mono ?_; rintro e w2 ⟨p, rfl, t⟩; have T0 := Lib.hid (show Tog w (fun _ => False) w2 [kLink 53 p ⟨[], false⟩, kPks (.slice none 0 0) []] from t.nilRow _ _); clear t N1))
  go_loopw [10, 9] (fun i v wr => ∃ (k : Nat) (W : List Pk) (a : Option Addr) (c : Nat), k ≤ L.length ∧ i = .int .i64 (k : Int) ∧ v = .slice a W.length c ∧ Hid (W = ordS 1 L k) ∧ Hid (Tog w (fun _ => False) wr [kLink 53 p ⟨W, false⟩, kPks (.slice a W.length c) W])) (fun i _ _ => L.length - (intOf i).toNat)
  case atStart => exact ⟨0, [], none, 0, Nat.zero_le _, rfl, rfl, Lib.hid rfl, T0⟩
  case round =>
    obtain ⟨k, W, a, c, hk, rfl, rfl, HWE, HT⟩ := hrel
    clear T0
    have hWl : W.length ≤ 30 := by rw [HWE.out, ord_len hk]; omega
    by_cases hlt : k < L.length
    · obtain ⟨b, hb⟩ : ∃ b, L[k]? = some b := ⟨_, List.getElem?_eq_getElem hlt⟩
      obtain ⟨ab, ao, rfl, hab, hc⟩ := H1.out.one HT.out.top hb
      have d0 := hc 0 (.string b) rfl
      simp only [Nat.mul_one, Nat.add_zero] at d0
      have g0 : (0 : Int) ≤ (k : Int) := by omega
      have g1 : (k : Int) < (L.length : Int) := by omega
      have w1 : wrap64 ((k : Int) + 1) = (k : Int) + 1 := by unfold wrap64; omega
      have W1 := Lib.hid w1
      have MEAS := Lib.hid (show L.length - (intOf (.int .i64 ((k : Int) + 1))).toNat < L.length - (intOf (.int .i64 (k : Int))).toNat by simp [intOf]; omega)
      by_cases h100 : b.size ≤ 100
      · have g2 : ¬ (100 : Int) < (b.size : Int) := by omega
        have C := HT.out.xsend (i := 0) rfl 0 b FI
        rw [send_ok0 (by omega)] at C
        have CS := Lib.hid C
        have KEEP := Lib.hid (show ∀ wz, Tog w (fun _ => False) wz [kLink 53 p ⟨W ++ [(1, b)], false⟩, kPks (.slice a W.length c) W] → wz.cell? ⟨ab, ao + k, none⟩ = some (.string b) from fun wz T => by
          obtain ⟨ab', ao', he, _, hc'⟩ := H1.out.one T.top hb
          obtain ⟨rfl, rfl⟩ : ab = ab' ∧ ao = ao' := by simpa using he
          have := hc' 0 (.string b) rfl
          simpa using this)
        have HB := Lib.hid (show W.length ≤ 100000 by omega)
        have NX := Lib.hid (show ∀ wz a' c', Tog w (fun _ => False) wz [kLink 53 p ⟨W ++ [(1, b)], false⟩, kPks (.slice a' (W.length + 1) c') (W ++ [(1, b)])] → ∃ (k' : Nat) (W' : List Pk) (a2 : Option Addr) (c2 : Nat), k' ≤ L.length ∧ Value.int .i64 ((k : Int) + 1) = .int .i64 (k' : Int) ∧ Value.slice a' (W.length + 1) c' = .slice a2 W'.length c2 ∧ Hid (W' = ordS 1 L k') ∧ Hid (Tog w (fun _ => False) wz [kLink 53 p ⟨W', false⟩, kPks (.slice a2 W'.length c2) W']) from fun wz a' c' T =>
          ⟨k + 1, W ++ [(1, b)], a', c', hlt, rfl, by simp, Lib.hid (by rw [ord_next hb, HWE.out]), Lib.hid (by rw [List.length_append]; exact T)⟩)
        clear hlt hk w1 C h100 HT hc hb hWl HWE hab
        go_wp2_with (first
          | (go_at_call 20; refine CS.out.mono ?_; rintro e w3 ⟨rfl, t⟩; have d1 := KEEP.out w3 t; have T3 := Lib.hid t; clear t CS)
          | (at_builtin; refine T3.out.list_pk rfl _ _ rfl 1 rfl ((1, b) : Pk) rfl rfl (by simp) HB.out ?_; intro a4 c4 w4 T4 hs4; have T := Lib.hid (NX.out w4 a4 c4 T4); clear T4 hs4 T3))
        go_roundw
        case rel => first | exact T.out | (rw [W1.out]; exact T.out)
        case measure => first | exact MEAS.out | (rw [W1.out]; exact MEAS.out)
      · have g2 : (100 : Int) < (b.size : Int) := by omega
        have TB := Lib.hid HT.out.top
        clear hlt hk w1 h100 HT hc hb hWl HWE
        go_wp2
        go_ret
        exact ⟨rfl, TB.out⟩
    · have g1 : ¬ (k : Int) < (L.length : Int) := by omega
      have T2 := Lib.hid (show Inv2 w p W a c wr from ⟨hWl, HT.out⟩)
      clear hlt hk HT HWE hWl hL H1
      go_wp2_with fail
      rename World => wb
      go_loopw [11, 9] (fun i v wr => ∃ (j : Nat) (W : List Pk) (a : Option Addr) (c : Nat), j ≤ K.length ∧ i = .int .i64 (j : Int) ∧ v = .slice a W.length c ∧ Hid (Inv2 w p W a c wr)) (fun i _ _ => K.length - (intOf i).toNat)
      case atStart => exact ⟨0, W, a, c, Nat.zero_le _, rfl, rfl, T2⟩
      case round =>
        obtain ⟨j, V, a, c, hj, rfl, rfl, HI⟩ := hrel
        clear T2
        obtain ⟨hV, hT⟩ := HI.out
        by_cases hlt : j < K.length
        · obtain ⟨n, hn⟩ : ∃ n, K[j]? = some n := ⟨_, List.getElem?_eq_getElem hlt⟩
          have nI := H2.out.ok n (List.mem_of_getElem? hn)
          obtain ⟨ab, ao, rfl, hab, hc⟩ := H2.out.one hT.top hn
          have d0 := hc 0 (.int .i64 n) rfl
          simp only [Nat.mul_one, Nat.add_zero] at d0
          have g0 : (0 : Int) ≤ (j : Int) := by omega
          have g1' : (j : Int) < (K.length : Int) := by omega
          have w1 : wrap64 ((j : Int) + 1) = (j : Int) + 1 := by unfold wrap64; omega
          have W1 := Lib.hid w1
          have MEAS := Lib.hid (show K.length - (intOf (.int .i64 ((j : Int) + 1))).toNat < K.length - (intOf (.int .i64 (j : Int))).toNat by simp [intOf]; omega)
          have D := hT.xdeliver (i := 0) rfl n nI
          have NX := Lib.hid (show ∀ wz V' a' c', Inv2 w p V' a' c' wz → ∃ (j' : Nat) (W' : List Pk) (a2 : Option Addr) (c2 : Nat), j' ≤ K.length ∧ Value.int .i64 ((j : Int) + 1) = .int .i64 (j' : Int) ∧ Value.slice a' V'.length c' = .slice a2 W'.length c2 ∧ Hid (Inv2 w p W' a2 c2 wz) from fun wz V' a' c' T => ⟨j + 1, V', a', c', hlt, rfl, rfl, Lib.hid T⟩)
          by_cases hin : 0 ≤ n ∧ n < V.length
          · obtain ⟨m, rfl⟩ : ∃ m : Nat, n = m := ⟨n.toNat, by omega⟩
            have hm : m < V.length := by omega
            obtain ⟨q1, q2, hq⟩ : ∃ q1 q2, V[m]? = some (q1, q2) := ⟨V[m].1, V[m].2, List.getElem?_eq_getElem hm⟩
            rw [deliver_yes hq] at D
            simp only [pkVal] at D
            have DD := Lib.hid D
            have k0 : ¬ (m : Int) < 0 := by omega
            have k1 : ¬ (V.length : Int) ≤ (m : Int) := by omega
            have k2 : (m : Int) < (V.length : Int) := by omega
            have k3 : (0 : Int) ≤ (m : Int) := by omega
            have hVm : V.length - 1 ≤ 30 := by omega
            have ELL := Lib.hid (show (V.take m ++ V.drop (m + 1)).length = V.length - 1 by simp; omega)
            have EX := Lib.hid (show ∀ w3, Tog w (fun _ => False) w3 [kLink 53 p ⟨V.take m ++ V.drop (m + 1), false⟩, kPks (.slice a V.length c) V] → ∃ gb, a = some ⟨gb, 0, none⟩ ∧ (w3.alloc (.cells #[.int .i64 q1, .string q2] 30)).cell? ⟨gb, m * 2, none⟩ = some (.int .i64 q1) ∧ (w3.alloc (.cells #[.int .i64 q1, .string q2] 30)).cell? ⟨gb, m * 2 + 1, none⟩ = some (.string q2) ∧ (w3.alloc (.cells #[.int .i64 q1, .string q2] 30)).cell? ⟨w3.heap.size, 0, none⟩ = some (.int .i64 q1) ∧ (w3.alloc (.cells #[.int .i64 q1, .string q2] 30)).cell? ⟨w3.heap.size, 1, none⟩ = some (.string q2) from fun w3 T => by
              have T5 := T.block (.cells #[.int .i64 q1, .string q2] 30)
              obtain ⟨gb, cc, hv, x0, x1⟩ := T5.pkAt (i := 1) rfl hq
              obtain ⟨rfl, rfl⟩ : a = some ⟨gb, 0, none⟩ ∧ c = cc := by simpa using hv
              exact ⟨gb, rfl, x0, x1, T5.cellAt (j := 2) rfl 0 rfl, T5.cellAt (j := 2) rfl 1 rfl⟩)
            have CO := Lib.hid (fun w3 (T : Tog w (fun _ => False) w3 [kLink 53 p ⟨V.take m ++ V.drop (m + 1), false⟩, kPks (.slice a V.length c) V]) => cutOut hV hm (T.alloc (.cells #[.int .i64 q1, .string q2] 30)))
            have HL1 := Lib.hid (show m = ([] : List Pk).length + (V.take m).length by simp; omega)
            have HL2 := Lib.hid (show V.length - 1 = ([] ++ V.take m).length + (V.drop (m + 1)).length by simp; omega)
            have HB1 := Lib.hid (show m ≤ 100000 by omega)
            have HB2 := Lib.hid (show V.length - 1 ≤ 100000 by omega)
            have hm1 : m + 1 ≤ V.length := hm
            have WR : IntKind.i64.wrap ((m : Int) + 1) = (m : Int) + 1 := by rw [IntKind.wrap_i64]; omega
            have WR2 : wrap64 ((m : Int) + 1) = (m : Int) + 1 := by unfold wrap64; omega
            have q0 := fun W => pk_neq q1 q1 q2 q2 W
            rw [decide_eq_true rfl] at q0
            have SL := Lib.hid (fun gb => sl_from gb V.length c (m + 1) hm1 ((m : Int) + 1) (by omega))
            have ST := Lib.hid (fun gb (h : m ≤ c) => sl_to gb V.length c m h)
            have FINV := Lib.hid (show ∀ a4 c4 w4, Tog w (fun _ => False) w4 [kLink 53 p ⟨V.take m ++ V.drop (m + 1), false⟩, kPks (.slice a4 (V.length - 1) c4) (V.take m ++ V.drop (m + 1))] → ∃ (j' : Nat) (W' : List Pk) (a2 : Option Addr) (c2 : Nat), j' ≤ K.length ∧ Value.int .i64 ((j : Int) + 1) = .int .i64 (j' : Int) ∧ Value.slice a4 (V.length - 1) c4 = .slice a2 W'.length c2 ∧ Hid (Inv2 w p W' a2 c2 w4) from fun a4 c4 w4 T => by
              have := NX.out w4 (V.take m ++ V.drop (m + 1)) a4 c4 ⟨by rw [ELL.out]; exact hVm, by rw [ELL.out]; exact T⟩
              rw [ELL.out] at this; exact this)
            clear hlt hj w1 D HI hT hn hc hm hin hq nI hm1 hab
            go_wp2_with (go_at_call 21; refine DD.out.mono ?_; rintro e w3 ⟨rfl, t⟩; obtain ⟨gb, rfl, x0, x1, x2, x3⟩ := EX.out w3 t; obtain ⟨gb', hgb, hnc, T1, S1, STEP, PICK⟩ := CO.out w3 t; have hgg := (Addr.mk.inj (Option.some.inj hgb)).1; subst hgg; obtain ⟨o, ho, sl2⟩ := SL.out gb; have sl1 := ST.out gb (by omega); have HO := Lib.hid ho; rw [show (w3.alloc (.cells #[.int .i64 q1, .string q2] 30)).heap.size = w3.heap.size + 1 by simp] at T1; have HT1 := Lib.hid T1.drew.drew; have HS1 := Lib.hid (show SrcAt ((w3.alloc (.cells #[.int .i64 q1, .string q2] 30)).alloc (.cells #[] 30)).drew.drew _ _ _ from S1); have HST := Lib.hid STEP; have HP := Lib.hid PICK; clear t DD EX CO hgb T1 S1 STEP PICK SL ST ho)
            go_region
            go_wp2_with fail
            have h1 : m ≤ c := by omega
            have h2 : (m : Int) ≤ (c : Int) := by omega
            have h3 : (m : Int) + 1 ≤ (V.length : Int) := by omega
            go_region_law (first | (refine HT1.out.step_pks (by rfl) _ _ (by rfl) 2 rfl (M := V.take m) HS1.out (by rfl) (by rfl) m HL1.out HB1.out ?_; intro a4 c4 w4 T4 hs4; have HS3 := Lib.hid (HST.out a4 c4 w4 o HO.out T4); have HT3 := Lib.hid T4; clear T4 hs4 HT1) | (refine HT3.out.step_pks (by rfl) _ _ (by rfl) 2 rfl (M := V.drop (m + 1)) HS3.out (by rfl) (by rfl) (V.length - 1) HL2.out HB2.out ?_; intro a5 c5 w5 T5 hs5; have T := Lib.hid (FINV.out a5 c5 w5 (HP.out _ w5 T5)); clear T5 hs5 HT3))
            all_goals
              go_wp2
              go_roundw
              case rel => first | exact T.out | (rw [W1.out]; exact T.out)
              case measure => first | exact MEAS.out | (rw [W1.out]; exact MEAS.out)
          · rw [deliver_no hin] at D
            simp only [pkVal, Pk.zero] at D
            have DD := Lib.hid D
            have NZ := Lib.hid (fun w3 (T : Tog w (fun _ => False) w3 [kLink 53 p ⟨V, false⟩, kPks (.slice a V.length c) V]) => NX.out _ V a c ⟨hV, (T.alloc (.cells #[.int .i64 0, .string ⟨#[]⟩] 30))⟩)
            have k4 : n < 0 ∨ (V.length : Int) ≤ n := by omega
            clear hlt hj w1 D HI hT hn hc hin nI hab
            rcases k4 with k4 | k4
            · go_wp2_with (go_at_call 21; refine DD.out.mono ?_; rintro e w3 ⟨rfl, t⟩; have T := Lib.hid (NZ.out w3 t); clear t DD)
              go_roundw
              case rel => first | exact T.out | (rw [W1.out]; exact T.out)
              case measure => first | exact MEAS.out | (rw [W1.out]; exact MEAS.out)
            · have k5 : ¬ n < 0 := by omega
              go_wp2_with (go_at_call 21; refine DD.out.mono ?_; rintro e w3 ⟨rfl, t⟩; have T := Lib.hid (NZ.out w3 t); clear t DD)
              go_roundw
              case rel => first | exact T.out | (rw [W1.out]; exact T.out)
              case measure => first | exact MEAS.out | (rw [W1.out]; exact MEAS.out)
        · have g1' : ¬ (j : Int) < (K.length : Int) := by omega
          have LI := Lib.hid (hT.xlist (i := 0) rfl)
          have HB := Lib.hid (show V.length ≤ 1000 by omega)
          have SA := Lib.hid (fun w3 a' c' (T : Tog w (fun _ => False) w3 ([kLink 53 p ⟨V, false⟩, kPks (.slice a V.length c) V] ++ [kPks (.slice a' V.length c') V])) => (⟨same_any (T.srcPks (i := 2) rfl) (T.srcPks (i := 1) rfl) HB.out HB.out, T.top⟩ : _ ∧ _))
          have ED := Lib.hid (show decide (V = V) = true from decide_eq_true rfl)
          clear hlt hj HI hT
          go_wp2_with (first
            | (go_at_call 18; refine LI.out.mono ?_; rintro e w3 ⟨a', c', rfl, t⟩; obtain ⟨sa, tb⟩ := SA.out w3 a' c' t; rw [ED.out] at sa; have SB := Lib.hid sa; have TB := Lib.hid tb; clear t sa tb LI SA)
            | (go_at_call 17; refine SB.out.mono ?_; rintro e w4 ⟨rfl, b4⟩; have TF := Lib.hid (TB.out.trans (b4.mono TB.out.size)); clear b4))
          go_ret
          exact ⟨rfl, TF.out⟩
set_option maxHeartbeats 8000000 in
theorem orders_1 {a1 a2 : Option Addr} {c1 c2 : Nat} {L : List ByteArray} {K : List Int} (w : World) (h1 : RowsAt strCells1 (fun s => s.size ≤ maxLen) 1 w.heap.size w a1 L) (h2 : RowsAt intCells1 InI 1 w.heap.size w a2 K) (hL : L.length ≤ 30) (hK : K.length ≤ 30) :
    Calls Try.prog 5 #[.int .i64 1, .slice a1 L.length c1, .slice a2 K.length c2] w fun e w' => e = .returned (.bool true) ∧ Below w.heap.size w w' := by
  have SM := Lib.hid (small_any w)
  have NEW := Lib.hid (fun (w1 : World) (b : Below w.heap.size w w1) => ((Tog.nil w (fun _ => False)).on b).xnew)
  have FI : InI 1 := by unfold InI; omega
  have H1 := Lib.hid h1
  have H2 := Lib.hid h2
  have hLi : ¬ (30 : Int) < (L.length : Int) := by omega
  have hKi : ¬ (30 : Int) < (K.length : Int) := by omega
  clear h1 h2
  go_enter Try.func5, Try.ntmps5
  go_wp2_with (first
    | (go_at_call 7; refine SM.out.mono ?_; rintro e w1 ⟨rfl, t⟩; have N1 := Lib.hid (NEW.out w1 t); clear t SM)
    | (go_at_call 8; refine N1.out.mono ?_; rintro e w2 ⟨p, rfl, t⟩; have T0 := Lib.hid (show Tog w (fun _ => False) w2 [kLink 53 p ⟨[], false⟩, kPks (.slice none 0 0) []] from t.nilRow _ _); clear t N1))
  go_loopw [10, 9] (fun i v wr => ∃ (k : Nat) (W : List Pk) (a : Option Addr) (c : Nat), k ≤ L.length ∧ i = .int .i64 (k : Int) ∧ v = .slice a W.length c ∧ Hid (W = ordS 0 L k) ∧ Hid (Tog w (fun _ => False) wr [kLink 53 p ⟨W, false⟩, kPks (.slice a W.length c) W])) (fun i _ _ => L.length - (intOf i).toNat)
  case atStart => exact ⟨0, [], none, 0, Nat.zero_le _, rfl, rfl, Lib.hid rfl, T0⟩
  case round =>
    obtain ⟨k, W, a, c, hk, rfl, rfl, HWE, HT⟩ := hrel
    clear T0
    have hWl : W.length ≤ 30 := by rw [HWE.out, ord_len hk]; omega
    by_cases hlt : k < L.length
    · obtain ⟨b, hb⟩ : ∃ b, L[k]? = some b := ⟨_, List.getElem?_eq_getElem hlt⟩
      obtain ⟨ab, ao, rfl, hab, hc⟩ := H1.out.one HT.out.top hb
      have d0 := hc 0 (.string b) rfl
      simp only [Nat.mul_one, Nat.add_zero] at d0
      have g0 : (0 : Int) ≤ (k : Int) := by omega
      have g1 : (k : Int) < (L.length : Int) := by omega
      have w1 : wrap64 ((k : Int) + 1) = (k : Int) + 1 := by unfold wrap64; omega
      have W1 := Lib.hid w1
      have MEAS := Lib.hid (show L.length - (intOf (.int .i64 ((k : Int) + 1))).toNat < L.length - (intOf (.int .i64 (k : Int))).toNat by simp [intOf]; omega)
      by_cases h100 : b.size ≤ 100
      · have g2 : ¬ (100 : Int) < (b.size : Int) := by omega
        have C := HT.out.xsend (i := 0) rfl 1 b FI
        rw [send_ok1 (by omega)] at C
        have CS := Lib.hid C
        have KEEP := Lib.hid (show ∀ wz, Tog w (fun _ => False) wz [kLink 53 p ⟨W ++ [(0, b)], false⟩, kPks (.slice a W.length c) W] → wz.cell? ⟨ab, ao + k, none⟩ = some (.string b) from fun wz T => by
          obtain ⟨ab', ao', he, _, hc'⟩ := H1.out.one T.top hb
          obtain ⟨rfl, rfl⟩ : ab = ab' ∧ ao = ao' := by simpa using he
          have := hc' 0 (.string b) rfl
          simpa using this)
        have HB := Lib.hid (show W.length ≤ 100000 by omega)
        have NX := Lib.hid (show ∀ wz a' c', Tog w (fun _ => False) wz [kLink 53 p ⟨W ++ [(0, b)], false⟩, kPks (.slice a' (W.length + 1) c') (W ++ [(0, b)])] → ∃ (k' : Nat) (W' : List Pk) (a2 : Option Addr) (c2 : Nat), k' ≤ L.length ∧ Value.int .i64 ((k : Int) + 1) = .int .i64 (k' : Int) ∧ Value.slice a' (W.length + 1) c' = .slice a2 W'.length c2 ∧ Hid (W' = ordS 0 L k') ∧ Hid (Tog w (fun _ => False) wz [kLink 53 p ⟨W', false⟩, kPks (.slice a2 W'.length c2) W']) from fun wz a' c' T =>
          ⟨k + 1, W ++ [(0, b)], a', c', hlt, rfl, by simp, Lib.hid (by rw [ord_next hb, HWE.out]), Lib.hid (by rw [List.length_append]; exact T)⟩)
        clear hlt hk w1 C h100 HT hc hb hWl HWE hab
        go_wp2_with (first
          | (go_at_call 20; refine CS.out.mono ?_; rintro e w3 ⟨rfl, t⟩; have d1 := KEEP.out w3 t; have T3 := Lib.hid t; clear t CS)
          | (at_builtin; refine T3.out.list_pk rfl _ _ rfl 1 rfl ((0, b) : Pk) rfl rfl (by simp) HB.out ?_; intro a4 c4 w4 T4 hs4; have T := Lib.hid (NX.out w4 a4 c4 T4); clear T4 hs4 T3))
        go_roundw
        case rel => first | exact T.out | (rw [W1.out]; exact T.out)
        case measure => first | exact MEAS.out | (rw [W1.out]; exact MEAS.out)
      · have g2 : (100 : Int) < (b.size : Int) := by omega
        have TB := Lib.hid HT.out.top
        clear hlt hk w1 h100 HT hc hb hWl HWE
        go_wp2
        go_ret
        exact ⟨rfl, TB.out⟩
    · have g1 : ¬ (k : Int) < (L.length : Int) := by omega
      have T2 := Lib.hid (show Inv2 w p W a c wr from ⟨hWl, HT.out⟩)
      clear hlt hk HT HWE hWl hL H1
      go_wp2_with fail
      rename World => wb
      go_loopw [11, 9] (fun i v wr => ∃ (j : Nat) (W : List Pk) (a : Option Addr) (c : Nat), j ≤ K.length ∧ i = .int .i64 (j : Int) ∧ v = .slice a W.length c ∧ Hid (Inv2 w p W a c wr)) (fun i _ _ => K.length - (intOf i).toNat)
      case atStart => exact ⟨0, W, a, c, Nat.zero_le _, rfl, rfl, T2⟩
      case round =>
        obtain ⟨j, V, a, c, hj, rfl, rfl, HI⟩ := hrel
        clear T2
        obtain ⟨hV, hT⟩ := HI.out
        by_cases hlt : j < K.length
        · obtain ⟨n, hn⟩ : ∃ n, K[j]? = some n := ⟨_, List.getElem?_eq_getElem hlt⟩
          have nI := H2.out.ok n (List.mem_of_getElem? hn)
          obtain ⟨ab, ao, rfl, hab, hc⟩ := H2.out.one hT.top hn
          have d0 := hc 0 (.int .i64 n) rfl
          simp only [Nat.mul_one, Nat.add_zero] at d0
          have g0 : (0 : Int) ≤ (j : Int) := by omega
          have g1' : (j : Int) < (K.length : Int) := by omega
          have w1 : wrap64 ((j : Int) + 1) = (j : Int) + 1 := by unfold wrap64; omega
          have W1 := Lib.hid w1
          have MEAS := Lib.hid (show K.length - (intOf (.int .i64 ((j : Int) + 1))).toNat < K.length - (intOf (.int .i64 (j : Int))).toNat by simp [intOf]; omega)
          have D := hT.xdeliver (i := 0) rfl n nI
          have NX := Lib.hid (show ∀ wz V' a' c', Inv2 w p V' a' c' wz → ∃ (j' : Nat) (W' : List Pk) (a2 : Option Addr) (c2 : Nat), j' ≤ K.length ∧ Value.int .i64 ((j : Int) + 1) = .int .i64 (j' : Int) ∧ Value.slice a' V'.length c' = .slice a2 W'.length c2 ∧ Hid (Inv2 w p W' a2 c2 wz) from fun wz V' a' c' T => ⟨j + 1, V', a', c', hlt, rfl, rfl, Lib.hid T⟩)
          by_cases hin : 0 ≤ n ∧ n < V.length
          · obtain ⟨m, rfl⟩ : ∃ m : Nat, n = m := ⟨n.toNat, by omega⟩
            have hm : m < V.length := by omega
            obtain ⟨q1, q2, hq⟩ : ∃ q1 q2, V[m]? = some (q1, q2) := ⟨V[m].1, V[m].2, List.getElem?_eq_getElem hm⟩
            rw [deliver_yes hq] at D
            simp only [pkVal] at D
            have DD := Lib.hid D
            have k0 : ¬ (m : Int) < 0 := by omega
            have k1 : ¬ (V.length : Int) ≤ (m : Int) := by omega
            have k2 : (m : Int) < (V.length : Int) := by omega
            have k3 : (0 : Int) ≤ (m : Int) := by omega
            have hVm : V.length - 1 ≤ 30 := by omega
            have ELL := Lib.hid (show (V.take m ++ V.drop (m + 1)).length = V.length - 1 by simp; omega)
            have EX := Lib.hid (show ∀ w3, Tog w (fun _ => False) w3 [kLink 53 p ⟨V.take m ++ V.drop (m + 1), false⟩, kPks (.slice a V.length c) V] → ∃ gb, a = some ⟨gb, 0, none⟩ ∧ (w3.alloc (.cells #[.int .i64 q1, .string q2] 30)).cell? ⟨gb, m * 2, none⟩ = some (.int .i64 q1) ∧ (w3.alloc (.cells #[.int .i64 q1, .string q2] 30)).cell? ⟨gb, m * 2 + 1, none⟩ = some (.string q2) ∧ (w3.alloc (.cells #[.int .i64 q1, .string q2] 30)).cell? ⟨w3.heap.size, 0, none⟩ = some (.int .i64 q1) ∧ (w3.alloc (.cells #[.int .i64 q1, .string q2] 30)).cell? ⟨w3.heap.size, 1, none⟩ = some (.string q2) from fun w3 T => by
              have T5 := T.block (.cells #[.int .i64 q1, .string q2] 30)
              obtain ⟨gb, cc, hv, x0, x1⟩ := T5.pkAt (i := 1) rfl hq
              obtain ⟨rfl, rfl⟩ : a = some ⟨gb, 0, none⟩ ∧ c = cc := by simpa using hv
              exact ⟨gb, rfl, x0, x1, T5.cellAt (j := 2) rfl 0 rfl, T5.cellAt (j := 2) rfl 1 rfl⟩)
            have CO := Lib.hid (fun w3 (T : Tog w (fun _ => False) w3 [kLink 53 p ⟨V.take m ++ V.drop (m + 1), false⟩, kPks (.slice a V.length c) V]) => cutOut hV hm (T.alloc (.cells #[.int .i64 q1, .string q2] 30)))
            have HL1 := Lib.hid (show m = ([] : List Pk).length + (V.take m).length by simp; omega)
            have HL2 := Lib.hid (show V.length - 1 = ([] ++ V.take m).length + (V.drop (m + 1)).length by simp; omega)
            have HB1 := Lib.hid (show m ≤ 100000 by omega)
            have HB2 := Lib.hid (show V.length - 1 ≤ 100000 by omega)
            have hm1 : m + 1 ≤ V.length := hm
            have WR : IntKind.i64.wrap ((m : Int) + 1) = (m : Int) + 1 := by rw [IntKind.wrap_i64]; omega
            have WR2 : wrap64 ((m : Int) + 1) = (m : Int) + 1 := by unfold wrap64; omega
            have q0 := fun W => pk_neq q1 q1 q2 q2 W
            rw [decide_eq_true rfl] at q0
            have SL := Lib.hid (fun gb => sl_from gb V.length c (m + 1) hm1 ((m : Int) + 1) (by omega))
            have ST := Lib.hid (fun gb (h : m ≤ c) => sl_to gb V.length c m h)
            have FINV := Lib.hid (show ∀ a4 c4 w4, Tog w (fun _ => False) w4 [kLink 53 p ⟨V.take m ++ V.drop (m + 1), false⟩, kPks (.slice a4 (V.length - 1) c4) (V.take m ++ V.drop (m + 1))] → ∃ (j' : Nat) (W' : List Pk) (a2 : Option Addr) (c2 : Nat), j' ≤ K.length ∧ Value.int .i64 ((j : Int) + 1) = .int .i64 (j' : Int) ∧ Value.slice a4 (V.length - 1) c4 = .slice a2 W'.length c2 ∧ Hid (Inv2 w p W' a2 c2 w4) from fun a4 c4 w4 T => by
              have := NX.out w4 (V.take m ++ V.drop (m + 1)) a4 c4 ⟨by rw [ELL.out]; exact hVm, by rw [ELL.out]; exact T⟩
              rw [ELL.out] at this; exact this)
            clear hlt hj w1 D HI hT hn hc hm hin hq nI hm1 hab
            go_wp2_with (go_at_call 21; refine DD.out.mono ?_; rintro e w3 ⟨rfl, t⟩; obtain ⟨gb, rfl, x0, x1, x2, x3⟩ := EX.out w3 t; obtain ⟨gb', hgb, hnc, T1, S1, STEP, PICK⟩ := CO.out w3 t; have hgg := (Addr.mk.inj (Option.some.inj hgb)).1; subst hgg; obtain ⟨o, ho, sl2⟩ := SL.out gb; have sl1 := ST.out gb (by omega); have HO := Lib.hid ho; rw [show (w3.alloc (.cells #[.int .i64 q1, .string q2] 30)).heap.size = w3.heap.size + 1 by simp] at T1; have HT1 := Lib.hid T1.drew.drew; have HS1 := Lib.hid (show SrcAt ((w3.alloc (.cells #[.int .i64 q1, .string q2] 30)).alloc (.cells #[] 30)).drew.drew _ _ _ from S1); have HST := Lib.hid STEP; have HP := Lib.hid PICK; clear t DD EX CO hgb T1 S1 STEP PICK SL ST ho)
            go_region
            go_wp2_with fail
            have h1 : m ≤ c := by omega
            have h2 : (m : Int) ≤ (c : Int) := by omega
            have h3 : (m : Int) + 1 ≤ (V.length : Int) := by omega
            go_region_law (first | (refine HT1.out.step_pks (by rfl) _ _ (by rfl) 2 rfl (M := V.take m) HS1.out (by rfl) (by rfl) m HL1.out HB1.out ?_; intro a4 c4 w4 T4 hs4; have HS3 := Lib.hid (HST.out a4 c4 w4 o HO.out T4); have HT3 := Lib.hid T4; clear T4 hs4 HT1) | (refine HT3.out.step_pks (by rfl) _ _ (by rfl) 2 rfl (M := V.drop (m + 1)) HS3.out (by rfl) (by rfl) (V.length - 1) HL2.out HB2.out ?_; intro a5 c5 w5 T5 hs5; have T := Lib.hid (FINV.out a5 c5 w5 (HP.out _ w5 T5)); clear T5 hs5 HT3))
            all_goals
              go_wp2
              go_roundw
              case rel => first | exact T.out | (rw [W1.out]; exact T.out)
              case measure => first | exact MEAS.out | (rw [W1.out]; exact MEAS.out)
          · rw [deliver_no hin] at D
            simp only [pkVal, Pk.zero] at D
            have DD := Lib.hid D
            have NZ := Lib.hid (fun w3 (T : Tog w (fun _ => False) w3 [kLink 53 p ⟨V, false⟩, kPks (.slice a V.length c) V]) => NX.out _ V a c ⟨hV, (T.alloc (.cells #[.int .i64 0, .string ⟨#[]⟩] 30))⟩)
            have k4 : n < 0 ∨ (V.length : Int) ≤ n := by omega
            clear hlt hj w1 D HI hT hn hc hin nI hab
            rcases k4 with k4 | k4
            · go_wp2_with (go_at_call 21; refine DD.out.mono ?_; rintro e w3 ⟨rfl, t⟩; have T := Lib.hid (NZ.out w3 t); clear t DD)
              go_roundw
              case rel => first | exact T.out | (rw [W1.out]; exact T.out)
              case measure => first | exact MEAS.out | (rw [W1.out]; exact MEAS.out)
            · have k5 : ¬ n < 0 := by omega
              go_wp2_with (go_at_call 21; refine DD.out.mono ?_; rintro e w3 ⟨rfl, t⟩; have T := Lib.hid (NZ.out w3 t); clear t DD)
              go_roundw
              case rel => first | exact T.out | (rw [W1.out]; exact T.out)
              case measure => first | exact MEAS.out | (rw [W1.out]; exact MEAS.out)
        · have g1' : ¬ (j : Int) < (K.length : Int) := by omega
          have LI := Lib.hid (hT.xlist (i := 0) rfl)
          have HB := Lib.hid (show V.length ≤ 1000 by omega)
          have SA := Lib.hid (fun w3 a' c' (T : Tog w (fun _ => False) w3 ([kLink 53 p ⟨V, false⟩, kPks (.slice a V.length c) V] ++ [kPks (.slice a' V.length c') V])) => (⟨same_any (T.srcPks (i := 2) rfl) (T.srcPks (i := 1) rfl) HB.out HB.out, T.top⟩ : _ ∧ _))
          have ED := Lib.hid (show decide (V = V) = true from decide_eq_true rfl)
          clear hlt hj HI hT
          go_wp2_with (first
            | (go_at_call 18; refine LI.out.mono ?_; rintro e w3 ⟨a', c', rfl, t⟩; obtain ⟨sa, tb⟩ := SA.out w3 a' c' t; rw [ED.out] at sa; have SB := Lib.hid sa; have TB := Lib.hid tb; clear t sa tb LI SA)
            | (go_at_call 17; refine SB.out.mono ?_; rintro e w4 ⟨rfl, b4⟩; have TF := Lib.hid (TB.out.trans (b4.mono TB.out.size)); clear b4))
          go_ret
          exact ⟨rfl, TF.out⟩
set_option maxHeartbeats 2000000 in
theorem orders_any {a1 a2 : Option Addr} {c1 c2 : Nat} {L : List ByteArray} {K : List Int} (w : World) (f : Int) (hf : InI f) (h1 : RowsAt strCells1 (fun s => s.size ≤ maxLen) 1 w.heap.size w a1 L) (h2 : RowsAt intCells1 InI 1 w.heap.size w a2 K) :
    Calls Try.prog 5 #[.int .i64 f, .slice a1 L.length c1, .slice a2 K.length c2] w fun e w' => e = .returned (.bool true) ∧ Below w.heap.size w w' := by
  by_cases hL : L.length ≤ 30
  · by_cases hK : K.length ≤ 30
    · by_cases f0 : f = 0
      · subst f0; exact orders_0 w h1 h2 hL hK
      · by_cases f1 : f = 1
        · subst f1; exact orders_1 w h1 h2 hL hK
        · have SM := Lib.hid (small_any w)
          have NEW := Lib.hid (fun (w1 : World) (b : Below w.heap.size w w1) => ((Tog.nil w (fun _ => False)).on b).xnew)
          have e0 : (f != 0) = true := by simpa using f0
          have e1 : (f != 1) = true := by simpa using f1
          have e0' : (f == 0) = false := by simpa using f0
          have e1' : (f == 1) = false := by simpa using f1
          have hLi : ¬ (30 : Int) < (L.length : Int) := by omega
          have hKi : ¬ (30 : Int) < (K.length : Int) := by omega
          clear h1 h2 f0 f1
          go_enter Try.func5, Try.ntmps5
          go_wp2_with (first
            | (go_at_call 7; refine SM.out.mono ?_; rintro e w1 ⟨rfl, t⟩; have N1 := Lib.hid (NEW.out w1 t); clear t SM)
            | (go_at_call 8; refine N1.out.mono ?_; rintro e w2 ⟨p, rfl, t⟩; have TB := Lib.hid t.top; clear t N1))
          go_ret
          exact ⟨rfl, TB.out⟩
    · have SM := Lib.hid (small_any w)
      have NEW := Lib.hid (fun (w1 : World) (b : Below w.heap.size w w1) => ((Tog.nil w (fun _ => False)).on b).xnew)
      have hLi : ¬ (30 : Int) < (L.length : Int) := by omega
      have hKi : (30 : Int) < (K.length : Int) := by omega
      clear h1 h2
      go_enter Try.func5, Try.ntmps5
      go_wp2_with (first
        | (go_at_call 7; refine SM.out.mono ?_; rintro e w1 ⟨rfl, t⟩; have N1 := Lib.hid (NEW.out w1 t); clear t SM)
        | (go_at_call 8; refine N1.out.mono ?_; rintro e w2 ⟨p, rfl, t⟩; have TB := Lib.hid t.top; clear t N1))
      go_ret
      exact ⟨rfl, TB.out⟩
  · have SM := Lib.hid (small_any w)
    have NEW := Lib.hid (fun (w1 : World) (b : Below w.heap.size w w1) => ((Tog.nil w (fun _ => False)).on b).xnew)
    have hLi : (30 : Int) < (L.length : Int) := by omega
    clear h1 h2
    go_enter Try.func5, Try.ntmps5
    go_wp2_with (first
      | (go_at_call 7; refine SM.out.mono ?_; rintro e w1 ⟨rfl, t⟩; have N1 := Lib.hid (NEW.out w1 t); clear t SM)
      | (go_at_call 8; refine N1.out.mono ?_; rintro e w2 ⟨p, rfl, t⟩; have TB := Lib.hid t.top; clear t N1))
    go_ret
    exact ⟨rfl, TB.out⟩
end Go.Proofs.Ytgdcocfekjlhfaa
