/-
  THE REFERENCE: Parts.
-/
import Derived.Test.YteccccpjhpbebaaGreatDoorUm
import Derived.RegionTactic
namespace Go.Proofs.YteccccpjhpbebaaGreatDoor
open Go.RowKit WireM
set_option linter.unusedVariables false
set_option linter.unusedSimpArgs false

theorem infoPart : (Tryz.prog.info? 56).map (fun i => (i.zero, i.size, i.bytes)) = some (some (.agg #[.int .i64 0, .int .u8 0, .string .empty, .bool false, .string .empty]), 5, 56) := by kernel_rfl
/-- A slice of parts that the call itself has made. -/
def PRowAt (w : World) (L : List (List UInt8)) (v : Value) (wr : World) : Prop :=
  wr.ownsRow w.heap.size 56 5 v L.length (rowCells L) ∧ Below w.heap.size w wr
theorem PRowAt.le {w wr : World} {L : List (List UInt8)} {v : Value} (h : PRowAt w L v wr) : w.heap.size ≤ wr.heap.size := h.2.size
theorem cells_one (t : List UInt8) : ∀ u ∈ partCells t, u.oneCell' = true := by
  intro u hu
  simp only [partCells, List.mem_cons, List.not_mem_nil, or_false] at hu
  rcases hu with rfl | rfl | rfl | rfl | rfl <;> rfl
/-- A cell of a block that was made after wr. -/
def NewKept (wr W w3 : World) : Prop := ∀ q i u, wr.heap.size ≤ q → W.cell? ⟨q, i, none⟩ = some u → w3.cell? ⟨q, i, none⟩ = some u
theorem append_part {ops : Array Oper} {rest : List Oper} {o : Oper} {a : Act} {Q : Exit → Act → World → Prop} (hgd : o.guard = none) (s x : Operand)
    (ho : o.op = .call { callee := .builtin .append, args := #[s, x], argTypes := #[ 52, 52 ] })
    {w wr W : World} {L : List (List UInt8)} (t : List UInt8) {v : Value} (h : PRowAt w L v wr) (hW : Below wr.heap.size wr W) (hs : a.eval s = v) (ad : Addr) (hx : a.eval x = .slice (some ad) 1 1)
    (hnews : ∀ j u, (partCells t)[j]? = some u → W.cell? (ad.add j) = some u) (hlen : L.length + 1 ≤ 1000000000000)
    (hK : ∀ v' w3, PRowAt w (L ++ [t]) v' w3 → NewKept wr W w3 → wpList Tryz.prog ops Q rest (a.put o.dst v') w3) : wpList Tryz.prog ops Q (o :: rest) a W := by
  obtain ⟨i0, hi, hz0, hz1, hz2⟩ := info_parts infoPart
  have hle := h.le
  have hle2 := hW.size
  have hown : W.ownsRow w.heap.size 56 5 v L.length (rowCells L) := h.1.kept (grownBy_of_below hW) (by cases hv : v.ownBlock <;> simp)
  refine wpList_append_own _ hgd s x 52 ho w.heap.size 56 i0 (.agg #[.int .i64 0, .int .u8 0, .string .empty, .bool false, .string .empty]) 5 56 Tryz.underlying52 hi hz0 hz1 hz2 rfl (by decide) v L.length (rowCells L) hs hown ad 1 1 (partCells t) hx rfl hnews (cells_one t) ?_ ?_ ?_ ?_
  · unfold maxLen; omega
  · omega
  · omega
  · intro v' w3 h1 h2 _
    refine hK v' w3 ⟨?_, (h.2.trans (hW.mono hle)).grown h2 (by omega) (fun k hk => (h.1.lt k hk).1)⟩ ?_
    · have e : rowCells (L ++ [t]) = rowCells L ++ partCells t := by simp [rowCells]
      rw [e, List.length_append]; exact h1
    · intro q i u hq hc
      refine h2.cell hc ?_
      intro hb
      have := (h.1.lt q hb.symm).2
      omega
/-- What the loop holds. -/
def PtsAt (p : ByteArray) (w : World) (k : Nat) (v : Value) (wr : World) : Prop :=
  ∃ L, parts p.data.toList = L ++ parts (p.data.toList.drop k) ∧ L.length ≤ k ∧ PRowAt w L v wr
theorem pts_next {p : ByteArray} {k n kind : Nat} {b : UInt8} {set : ByteArray} {no : Bool} {L : List (List UInt8)} (h : parts p.data.toList = L ++ parts (p.data.toList.drop k)) (hk : k < p.size) (hn : PartIs p k n kind b set no) :
    parts p.data.toList = (L ++ [(p.extract k (k + n)).data.toList]) ++ parts (p.data.toList.drop (k + n)) := by
  have e := drop_cons p k hk
  rw [h, ext_take, List.append_assoc]
  congr 1
  have hn := hn.len
  rw [e] at hn ⊢
  rw [parts_cons, hn, ← e, List.drop_drop]; rfl
theorem part_len {p : ByteArray} {k n kind : Nat} {b : UInt8} {set : ByteArray} {no : Bool} (hk : k < p.size) (hn : PartIs p k n kind b set no) : 1 ≤ n ∧ k + n ≤ p.size := by
  have h := partLen_pos p[k] (p.data.toList.drop (k + 1))
  rw [← drop_cons p k hk, List.length_drop, hn.len] at h
  have e : p.data.toList.length = p.size := by simp
  omega

theorem slice_at2 (s : ByteArray) (i j : Nat) (I J : Int) (hI : I = i) (hJ : J = j) (hij : i ≤ j) (hj : j ≤ s.size) (W : World) : (Instr.slice 9 (.string s) (some (.int .i64 I)) (some (.int .i64 J)) none).run Tryz.prog W = .ok (.string (s.extract i j)) W := by
  subst hI; exact slice_at s i j J hJ hij hj W
/-- What closing returns. -/
def ClPost (p : ByteArray) (f : Nat) (w : World) (e : Ending) (w' : World) : Prop :=
  (∃ j : Nat, e = .returned (.int .i64 j) ∧ f < j ∧ ∃ h : j < p.size, p[j].toNat = 93 ∧ ∀ (i : Nat) (hi : i < p.size), f < i → i < j → p[i].toNat ≠ 93) ∧ w = w' ∨ (e = .returned (.int .i64 (-1)) ∧ ∀ (i : Nat) (hi : i < p.size), f < i → p[i].toNat ≠ 93) ∧ w = w'
theorem rclosing_at (p : ByteArray) (f : Nat) (F : Int) (hF : F = f) (hp : p.size ≤ 1000000000) (hf : f ≤ 1000000000) (w : World) :
    Calls Tryz.prog 52 #[.string p, .int .i64 F] w (ClPost p f w) := by
  subst hF; exact rclosing_any p f hp hf w
theorem append_part2 {ops : Array Oper} {rest : List Oper} {o : Oper} {a : Act} {Q : Exit → Act → World → Prop} (hgd : o.guard = none) (s x : Operand)
    (ho : o.op = .call { callee := .builtin .append, args := #[s, x], argTypes := #[ 52, 52 ] })
    {p : ByteArray} {w wr W : World} {k n kind : Nat} {b : UInt8} {set : ByteArray} {no : Bool} {L : List (List UInt8)} {v : Value}
    (hL : Hid (parts p.data.toList = L ++ parts (p.data.toList.drop k))) (hk : k < p.size) (hLk : L.length ≤ k) (hsz : p.size ≤ 1000000000) (hP : PartIs p k n kind b set no) (hrow : PRowAt w L v wr)
    (X : Array Value) (hX : X.toList = [.int .i64 kind, .int .u8 b.toNat, .string set, .bool no, .string (p.extract k (k + n))])
    (hh : W.heap = ((wr.alloc (.cells X 56)).alloc (.cells X 56)).heap) (hos : W.os = wr.os) (htp : W.tape = wr.tape) (hout : W.output = wr.output)
    (hs : a.eval s = v) (hx : a.eval x = .slice (some ⟨wr.heap.size + 1, 0, none⟩) 1 1)
    (hK : ∀ v' w3, PtsAt p w (k + n) v' w3 → w3.cell? ⟨wr.heap.size, 4, none⟩ = some (.string (p.extract k (k + n))) → wpList Tryz.prog ops Q rest (a.put o.dst v') w3) : wpList Tryz.prog ops Q (o :: rest) a W := by
  have hW : Below wr.heap.size wr W := by
    have h0 : Below wr.heap.size wr ((wr.alloc (.cells X 56)).alloc (.cells X 56)) := ((Below.refl _ _).alloc (Nat.le_refl _) _).alloc (by simp) _
    exact ⟨hos, htp, hout, by rw [hh]; exact h0.size, fun j hj => by rw [hh]; exact h0.block j hj⟩
  have b1 : W.heap[wr.heap.size + 1]? = some (.cells X 56 (0, 0)) := by
    rw [hh]
    have := heap_alloc_new (wr.alloc (.cells X 56)) (.cells X 56)
    have e : (wr.alloc (.cells X 56)).heap.size = wr.heap.size + 1 := by simp
    rw [e] at this; exact this
  have b0 : W.heap[wr.heap.size]? = some (.cells X 56 (0, 0)) := by
    rw [hh, Below.heap_alloc _ _ _ (by simp)]
    exact heap_alloc_new wr _
  have hc : partCells (p.extract k (k + n)).data.toList = X.toList := by rw [hX]; exact hP.cells
  have hn := part_len hk hP
  refine append_part hgd s x ho (p.extract k (k + n)).data.toList hrow hW hs ⟨wr.heap.size + 1, 0, none⟩ hx ?_ (by omega) ?_
  · intro j u hj
    have hadd : (⟨wr.heap.size + 1, 0, none⟩ : Addr).add j = ⟨wr.heap.size + 1, j, none⟩ := by unfold Addr.add; split <;> simp_all
    rw [hadd, cell_of_row W _ j X _ (0, 0) b1, ← Array.getElem?_toList, ← hc]; exact hj
  · intro v' w3 h1 h2
    refine hK v' w3 ⟨_, pts_next hL.out hk hP, by rw [List.length_append, List.length_singleton]; omega, h1⟩ ?_
    refine h2 wr.heap.size 4 _ (Nat.le_refl _) ?_
    rw [cell_of_row W _ 4 X _ (0, 0) b0, ← Array.getElem?_toList, hX]; rfl
set_option maxHeartbeats 8000000 in
set_option maxRecDepth 100000 in
theorem rparts_any (p : ByteArray) (hp : p.size ≤ 1000000000) (w : World) :
    Calls Tryz.prog 39 #[.string p] w fun e w' => ∃ v, e = .returned v ∧ PRowAt w (parts p.data.toList) v w' := by
  have hst : PtsAt p w 0 (.slice none 0 0) w := ⟨[], rfl, Nat.zero_le _, World.ownsRow_nil _ _ _ _, Below.refl _ _⟩
  have hsz : (p.size : Int) ≤ 1000000000 := by omega
  go_enter Tryz.func39, Tryz.ntmps39
  go_wp2_with fail
  go_loopw [4, 3, 5, 6] (fun i v x y wr => ∃ k : Nat, k ≤ p.size ∧ i = .int .i64 k ∧ PtsAt p w k v wr) (fun i _ _ _ _ => p.size - (intOf i).toNat)
  case atStart => exact ⟨0, Nat.zero_le _, rfl, hst⟩
  case round =>
    obtain ⟨k, hk, rfl, L, hL, hLk, hrow⟩ := hrel
    clear hst
    have HL := Lib.hid hL
    clear hL
    by_cases hlt : k < p.size
    · have hlz : (k : Int) < p.size := by omega
      have hsl1 := fun W => slice_at p k (k + 1) ((k : Int) + 1) (by omega) (by omega) (by omega) W
      have HB := fun (h : k + 1 < p.size) (h92 : p[k].toNat = 92) => part_bs p k h h92
      have HO := fun (h91 : p[k].toNat ≠ 91) (h92 : ¬ (p[k].toNat = 92 ∧ k + 1 < p.size)) kind hk => part_other p k hlt h91 h92 kind hk
      have HP := fun (h91 : p[k].toNat = 91) hno => part_open p k hlt h91 hno
      have HNOT := fun (h1 : k + 1 < p.size) (h91 : p[k].toNat = 91) (h33 : p[k + 1].toNat = 33) j hf hj h93 hno => part_not p k j h1 h91 h33 hf hj h93 hno
      have HCLS := fun (h91 : p[k].toNat = 91) j hf hj h93 hno hx => part_cls p k j (by rw [getElem?_pos p k hlt]; simpa using h91) hf hj h93 hno hx
      generalize hc : p[k] = c at *
      have hhb := Lib.hid HB
      have hho := Lib.hid HO
      have hhp := Lib.hid HP
      have hhnot := Lib.hid HNOT
      have hhcls := Lib.hid HCLS
      clear HB HO HP HNOT HCLS
      by_cases hA : c.toNat = 92 ∧ k + 1 < p.size
      · obtain ⟨h92, h1n⟩ := hA
        have f1 : ((c.toNat : Int) == 92) = true := by rw [beq_iff_eq]; omega
        have g1 : (k : Int) + 1 < p.size := by omega
        have hsl2 := fun W => slice_at p k (k + 2) ((k : Int) + 2) (by omega) (by omega) (by omega) W
        have hP := hhb.out h1n h92
        have hpl := part_len hlt hP
        have HTS := Lib.hid (show (k : Int) + ((p.extract k (k + 2)).size : Int) = ((k + 2 : Nat) : Int) by rw [ByteArray.size_extract]; omega)
        have hxs : (p.extract k (k + 2)).size ≤ 1000000000 := by rw [ByteArray.size_extract]; omega
        generalize hd : p[k + 1] = d at *
        clear h92 hhb hho hhp hhnot hhcls
        go_wp2_with fail
        go_region
        go_wp2_with fail
        go_region
        go_wp2_with (at_builtin; refine append_part2 rfl _ _ rfl HL hlt hLk hp hP hrow #[.int .i64 0, .int .u8 d.toNat, .string ⟨#[]⟩, .bool false, .string (p.extract k (k + 2))] rfl rfl rfl rfl rfl rfl rfl ?_; intro v' w3 h3 c3)
        go_roundw
        case rel => exact ⟨k + 2, by omega, by first | (rw [HTS.out]; done) | go_num | (congr 1; omega), h3⟩
        case measure => simp only [intOf]; have := HTS.out; omega
      · have key : ((c.toNat : Int) == 92) = false ∨ (((c.toNat : Int) == 92) = true ∧ ¬ (k : Int) + 1 < p.size) := by
          by_cases e : c.toNat = 92
          · right
            refine ⟨by rw [beq_iff_eq]; omega, ?_⟩
            intro h; exact hA ⟨e, by omega⟩
          · left; rw [beq_eq_false_iff_ne]; omega
        have HTS := Lib.hid (show (k : Int) + ((p.extract k (k + 1)).size : Int) = ((k + 1 : Nat) : Int) by rw [ByteArray.size_extract]; omega)
        have hxs : (p.extract k (k + 1)).size ≤ 1000000000 := by rw [ByteArray.size_extract]; omega
        by_cases h42 : c.toNat = 42
        · have hP := hho.out (by omega) hA 1 (by rw [if_pos h42])
          have f1 : ((c.toNat : Int) == 92) = false := by rw [beq_eq_false_iff_ne]; omega
          have f2 : ((c.toNat : Int) == 42) = true := by rw [beq_iff_eq]; omega
          clear h42 hA key hhb hho hhp hhnot hhcls
          go_wp2_with fail
          go_region
          go_wp2_with (at_builtin; refine append_part2 rfl _ _ rfl HL hlt hLk hp hP hrow #[.int .i64 1, .int .u8 c.toNat, .string ⟨#[]⟩, .bool false, .string (p.extract k (k + 1))] rfl rfl rfl rfl rfl rfl rfl ?_; intro v' w3 h3 c3)
          go_roundw
          case rel => exact ⟨k + 1, by omega, by first | (rw [HTS.out]; done) | go_num | (congr 1; omega), h3⟩
          case measure => simp only [intOf]; have := HTS.out; omega
        · have f2 : ((c.toNat : Int) == 42) = false := by rw [beq_eq_false_iff_ne]; omega
          by_cases h63 : c.toNat = 63
          · have hP := hho.out (by omega) hA 2 (by rw [if_neg h42, if_pos h63])
            have f1 : ((c.toNat : Int) == 92) = false := by rw [beq_eq_false_iff_ne]; omega
            have f3 : ((c.toNat : Int) == 63) = true := by rw [beq_iff_eq]; omega
            clear h42 h63 hA key hhb hho hhp hhnot hhcls
            go_wp2_with fail
            go_region
            go_wp2_with (at_builtin; refine append_part2 rfl _ _ rfl HL hlt hLk hp hP hrow #[.int .i64 2, .int .u8 c.toNat, .string ⟨#[]⟩, .bool false, .string (p.extract k (k + 1))] rfl rfl rfl rfl rfl rfl rfl ?_; intro v' w3 h3 c3)
            go_roundw
            case rel => exact ⟨k + 1, by omega, by first | (rw [HTS.out]; done) | go_num | (congr 1; omega), h3⟩
            case measure => simp only [intOf]; have := HTS.out; omega
          · have f3 : ((c.toNat : Int) == 63) = false := by rw [beq_eq_false_iff_ne]; omega
            by_cases h91 : c.toNat = 91
            · have f1 : ((c.toNat : Int) == 92) = false := by rw [beq_eq_false_iff_ne]; omega
              have f4 : ((c.toNat : Int) == 91) = true := by rw [beq_iff_eq]; omega
              have HPO := Lib.hid (fun hno => hhp.out h91 hno)
              have HPC := Lib.hid (fun j hf hj h93 hno hx => hhcls.out h91 j hf hj h93 hno hx)
              have HPN := Lib.hid (fun h1 h33 j hf hj h93 hno => hhnot.out h1 h91 h33 j hf hj h93 hno)
              have hpr := hrow
              clear hpr h42 h63 hA key hhb hho hhp hhnot hhcls h91
              by_cases hb : ∃ h : k + 1 < p.size, p[k + 1].toNat = 33
              · obtain ⟨h1n, h33⟩ := hb
                have g1 : (k : Int) + 1 < p.size := by omega
                have f5 : ((p[k + 1].toNat : Int) == 33) = true := by rw [beq_iff_eq]; omega
                have HPN2 := Lib.hid (HPN.out h1n h33)
                have HPC2 := Lib.hid (fun j hf hj h93 hno hx => HPC.out j hf hj h93 hno (fun _ => hx))
                clear HPN HPC h33
                go_wp2_with fail
                go_region
                go_wp2_with fail
                go_at_call 52
                refine (rclosing_at p (k + 2) _ (by omega) hp (by omega) _).mono ?_
                rintro e w2 (⟨⟨j, rfl, hf, hj, h93, hno⟩, hww⟩ | ⟨⟨rfl, hno⟩, hww⟩)
                · have hP := HPN2.out j hf hj h93 hno
                  clear h93 hno HPN2 HPC2 HPO
                  subst hww
                  have hj0 : (0 : Int) ≤ j := by omega
                  have HTS := Lib.hid (show (k : Int) + ((p.extract k (k + (j + 1 - k))).size : Int) = ((k + (j + 1 - k) : Nat) : Int) by rw [ByteArray.size_extract]; omega)
                  have hxs : (p.extract k (k + (j + 1 - k))).size ≤ 1000000000 := by rw [ByteArray.size_extract]; omega
                  have hsl2 := fun W => slice_at2 p (k + 2) j ((k : Int) + 2) (j : Int) (by omega) rfl (by omega) (by omega) W
                  have hsl3 := fun W => slice_at p k (k + (j + 1 - k)) ((j : Int) + 1) (by omega) (by omega) (by omega) W
                  go_wp2_with fail
                  go_region
                  go_wp2_with (at_builtin; refine append_part2 rfl _ _ rfl HL hlt hLk hp hP hrow #[.int .i64 3, .int .u8 0, .string (p.extract (k + 2) j), .bool true, .string (p.extract k (k + (j + 1 - k)))] rfl rfl rfl rfl rfl rfl rfl ?_; intro v' w3 h3 c3)
                  go_roundw
                  case rel => exact ⟨k + (j + 1 - k), by omega, by first | (rw [HTS.out]; done) | go_num | (congr 1; omega), h3⟩
                  case measure => simp only [intOf]; have := HTS.out; omega
                · have HX := Lib.hid hno
                  clear hno HPN2
                  subst hww
                  go_wp2_with fail
                  go_at_call 52
                  refine (rclosing_at p (k + 1) _ (by omega) hp (by omega) _).mono ?_
                  rintro e w2 (⟨⟨j, rfl, hf, hj, h93, hno⟩, hww⟩ | ⟨⟨rfl, hno⟩, hww⟩)
                  · have hP := HPC2.out j hf hj h93 hno HX.out
                    clear h93 hno HPC2 HPO
                    subst hww
                    have hj0 : (0 : Int) ≤ j := by omega
                    have HTS := Lib.hid (show (k : Int) + ((p.extract k (k + (j + 1 - k))).size : Int) = ((k + (j + 1 - k) : Nat) : Int) by rw [ByteArray.size_extract]; omega)
                    have hxs : (p.extract k (k + (j + 1 - k))).size ≤ 1000000000 := by rw [ByteArray.size_extract]; omega
                    have hsl2 := fun W => slice_at2 p (k + 1) j ((k : Int) + 1) (j : Int) (by omega) rfl (by omega) (by omega) W
                    have hsl3 := fun W => slice_at p k (k + (j + 1 - k)) ((j : Int) + 1) (by omega) (by omega) (by omega) W
                    go_wp2_with fail
                    go_region
                    go_wp2_with (at_builtin; refine append_part2 rfl _ _ rfl HL hlt hLk hp hP hrow #[.int .i64 3, .int .u8 0, .string (p.extract (k + 1) j), .bool false, .string (p.extract k (k + (j + 1 - k)))] rfl rfl rfl rfl rfl rfl rfl ?_; intro v' w3 h3 c3)
                    go_roundw
                    case rel => exact ⟨k + (j + 1 - k), by omega, by first | (rw [HTS.out]; done) | go_num | (congr 1; omega), h3⟩
                    case measure => simp only [intOf]; have := HTS.out; omega
                  · have hP := HPO.out hno
                    clear hno HPC2 HPO
                    subst hww
                    go_wp2_with (at_builtin; refine append_part2 rfl _ _ rfl HL hlt hLk hp hP hrow #[.int .i64 0, .int .u8 c.toNat, .string ⟨#[]⟩, .bool false, .string (p.extract k (k + 1))] rfl rfl rfl rfl rfl rfl rfl ?_; intro v' w3 h3 c3)
                    go_roundw
                    case rel => exact ⟨k + 1, by omega, by first | (rw [HTS.out]; done) | go_num | (congr 1; omega), h3⟩
                    case measure => simp only [intOf]; have := HTS.out; omega
              · have key : (¬ (k : Int) + 1 < p.size) ∨ (∃ h : k + 1 < p.size, ((p[k + 1].toNat : Int) == 33) = false) := by
                  by_cases h : k + 1 < p.size
                  · right
                    refine ⟨h, ?_⟩
                    rw [beq_eq_false_iff_ne]
                    intro e; exact hb ⟨h, by omega⟩
                  · left; omega
                have HPC2 := Lib.hid (fun j hf hj h93 hno => HPC.out j hf hj h93 hno (fun h => absurd h hb))
                clear HPN HPC hb
                rcases key with g1 | ⟨g1n, f5⟩
                · go_wp2_with fail
                  go_region
                  go_wp2_with fail
                  go_at_call 52
                  refine (rclosing_at p (k + 1) _ (by omega) hp (by omega) _).mono ?_
                  rintro e w2 (⟨⟨j, rfl, hf, hj, h93, hno⟩, hww⟩ | ⟨⟨rfl, hno⟩, hww⟩)
                  · exfalso; omega
                  · have hP := HPO.out hno
                    clear hno HPC2 HPO
                    subst hww
                    go_wp2_with (at_builtin; refine append_part2 rfl _ _ rfl HL hlt hLk hp hP hrow #[.int .i64 0, .int .u8 c.toNat, .string ⟨#[]⟩, .bool false, .string (p.extract k (k + 1))] rfl rfl rfl rfl rfl rfl rfl ?_; intro v' w3 h3 c3)
                    go_roundw
                    case rel => exact ⟨k + 1, by omega, by first | (rw [HTS.out]; done) | go_num | (congr 1; omega), h3⟩
                    case measure => simp only [intOf]; have := HTS.out; omega
                · have g1 : (k : Int) + 1 < p.size := by omega
                  go_wp2_with fail
                  go_region
                  go_wp2_with fail
                  go_at_call 52
                  refine (rclosing_at p (k + 1) _ (by omega) hp (by omega) _).mono ?_
                  rintro e w2 (⟨⟨j, rfl, hf, hj, h93, hno⟩, hww⟩ | ⟨⟨rfl, hno⟩, hww⟩)
                  · have hP := HPC2.out j hf hj h93 hno
                    clear h93 hno HPC2 HPO
                    subst hww
                    have hj0 : (0 : Int) ≤ j := by omega
                    have HTS := Lib.hid (show (k : Int) + ((p.extract k (k + (j + 1 - k))).size : Int) = ((k + (j + 1 - k) : Nat) : Int) by rw [ByteArray.size_extract]; omega)
                    have hxs : (p.extract k (k + (j + 1 - k))).size ≤ 1000000000 := by rw [ByteArray.size_extract]; omega
                    have hsl2 := fun W => slice_at2 p (k + 1) j ((k : Int) + 1) (j : Int) (by omega) rfl (by omega) (by omega) W
                    have hsl3 := fun W => slice_at p k (k + (j + 1 - k)) ((j : Int) + 1) (by omega) (by omega) (by omega) W
                    go_wp2_with fail
                    go_region
                    go_wp2_with (at_builtin; refine append_part2 rfl _ _ rfl HL hlt hLk hp hP hrow #[.int .i64 3, .int .u8 0, .string (p.extract (k + 1) j), .bool false, .string (p.extract k (k + (j + 1 - k)))] rfl rfl rfl rfl rfl rfl rfl ?_; intro v' w3 h3 c3)
                    go_roundw
                    case rel => exact ⟨k + (j + 1 - k), by omega, by first | (rw [HTS.out]; done) | go_num | (congr 1; omega), h3⟩
                    case measure => simp only [intOf]; have := HTS.out; omega
                  · have hP := HPO.out hno
                    clear hno HPC2 HPO
                    subst hww
                    go_wp2_with (at_builtin; refine append_part2 rfl _ _ rfl HL hlt hLk hp hP hrow #[.int .i64 0, .int .u8 c.toNat, .string ⟨#[]⟩, .bool false, .string (p.extract k (k + 1))] rfl rfl rfl rfl rfl rfl rfl ?_; intro v' w3 h3 c3)
                    go_roundw
                    case rel => exact ⟨k + 1, by omega, by first | (rw [HTS.out]; done) | go_num | (congr 1; omega), h3⟩
                    case measure => simp only [intOf]; have := HTS.out; omega
            · have f4 : ((c.toNat : Int) == 91) = false := by rw [beq_eq_false_iff_ne]; omega
              have hP := hho.out h91 hA 0 (by rw [if_neg h42, if_neg h63])
              clear h42 h63 h91 hA hhb hho hhp hhnot hhcls
              rcases key with f1 | ⟨f1, g1⟩
              all_goals
                go_wp2_with fail
                go_region
                go_wp2_with (at_builtin; refine append_part2 rfl _ _ rfl HL hlt hLk hp hP hrow #[.int .i64 0, .int .u8 c.toNat, .string ⟨#[]⟩, .bool false, .string (p.extract k (k + 1))] rfl rfl rfl rfl rfl rfl rfl ?_; intro v' w3 h3 c3)
                go_roundw
                case rel => exact ⟨k + 1, by omega, by first | (rw [HTS.out]; done) | go_num | (congr 1; omega), h3⟩
                case measure => simp only [intOf]; have := HTS.out; omega
    · obtain rfl : k = p.size := by omega
      have hlz : ¬ ((p.size : Nat) : Int) < p.size := by omega
      have HE := Lib.hid (show parts p.data.toList = L by rw [HL.out, List.drop_of_length_le (by simp), parts_nil, List.append_nil])
      go_wp2_with fail
      go_ret
      exact ⟨_, rfl, by rw [HE.out]; exact hrow⟩
end Go.Proofs.YteccccpjhpbebaaGreatDoor
