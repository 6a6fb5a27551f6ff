/-
  THE LAWS OF LAYER 3: what a law's arguments are; plain facts of Write, Truncate and Crash.
-/
import Derived.Test.YtgebfhikahjahaaEb
namespace Go.Proofs.Ytgebfhikahjahaa
open Go.RowKit Go.Maps WireM DiskM
set_option linter.unusedVariables false
set_option linter.unusedSimpArgs false

theorem run_inv {w0 w : World} {p : Nat} {s : St} (h : S1 w0 w p s) : Inv s := by obtain ⟨q, h1, h4⟩ := h; exact h1.1.inv
theorem S1.keep60 {w0 w : World} {p : Nat} {s : St} (h : S1 w0 w p s) : s.keep.length ≤ 60 := by obtain ⟨q, h1, h4⟩ := h; exact h1.2.2
theorem played_S1 {w0 w : World} {a : Option Addr} {c : Nat} {l : List ActV} (h : ActsAt w0.heap.size w0 a l) (hb : Below w0.heap.size w0 w) (hf : Few l) :
    Calls Try.prog 22 #[.slice a l.length c] w fun e w' => ∃ p, e = .returned (.pointer (some ⟨p, 0, none⟩)) ∧ S1 w0 w' p (runActs St.new l) := by
  refine (played_any (h.below hb) hb.size hf).mono ?_
  rintro e w' ⟨p, q, rfl, h1, b1⟩
  exact ⟨p, rfl, q, ⟨h1.1, fun b hm => Nat.le_trans hb.size (h1.2.1 b hm), h1.2.2⟩, hb.trans (b1.mono hb.size)⟩
theorem few_at {w0 w : World} {a : Option Addr} {c : Nat} {l : List ActV} (h : ActsAt w0.heap.size w0 a l) (hb : Below w0.heap.size w0 w) {r : Bool} (hr : decide (Few l) = r) :
    Calls Try.prog 9 #[.slice a l.length c] w fun e w' => e = .returned (.bool r) ∧ w = w' := hr ▸ few_any (h.below hb)
theorem small_at {w0 w : World} (hb : Below w0.heap.size w0 w) : Calls Try.prog 8 #[] w fun e w' => e = .returned (.bool true) ∧ Below w0.heap.size w0 w' := by
  refine (small_any w).mono ?_
  rintro e w' ⟨rfl, b⟩
  exact ⟨rfl, hb.trans (b.mono hb.size)⟩
theorem bsd (s : ByteArray) : bs s.data.toList = s := rfl
theorem ext_bs (L : List UInt8) (i j : Nat) : (bs L).extract i j = bs ((L.take j).drop i) := by
  apply ByteArray.ext
  apply Array.ext'
  rw [ByteArray.data_extract]
  simp [bs, List.extract_eq_take_drop, List.drop_take]

theorem write_up {s : St} {f a : Int} {t : List UInt8} (hd : s.down = false) (ha : s.armed = 0) (hf : isF f) (h0 : 0 ≤ a) (h1 : a + t.length ≤ 16777216) :
    (s.write f a t).2 = 0 ∧ (s.write f a t).1.down = false ∧ (s.write f a t).1.armed = 0 ∧ (s.write f a t).1.now f = if t = [] then s.now f else put (s.now f) a.toNat t := by
  have hc : chk f a t.length = 0 := by unfold chk; rw [if_neg (by rintro (h | h); exact h hf; omega), if_neg (by omega)]
  unfold St.write
  rw [if_neg (by simp [hd]), hc]
  by_cases ht : t = []
  · rw [if_neg (fun h => h.2 ht), if_pos ht]
    unfold St.strike
    rw [if_neg (by omega)]
    simp [St.tick, ha, hd]
  · rw [if_pos ⟨rfl, ht⟩, if_neg ht]
    unfold St.strike
    rw [if_neg (by show ¬ (s.add f a.toNat t).armed = 1; simp [St.add, ha])]
    simp [St.tick, ha, hd, St.add, upd_same]
theorem write_bad {s : St} {f a : Int} {t : List UInt8} (ha : s.armed = 0) (h : s.down = true ∨ ¬ isF f) : (s.write f a t).2 ≠ 0 := by
  unfold St.write
  by_cases hd : s.down = true
  · rw [if_pos hd]; simp
  · have hf := h.resolve_left hd
    have hc : chk f a t.length = 1 := by unfold chk; rw [if_pos (.inl hf)]
    rw [if_neg hd, hc, if_neg (by simp)]
    unfold St.strike
    rw [if_neg (by omega)]
    simp
theorem put_read (l : List UInt8) (a : Nat) (t : List UInt8) : ((put l a t).drop a).take t.length = t := by
  have e := ext_len l (a + t.length)
  have h1 : ((ext l (a + t.length)).take a).length = a := by rw [List.length_take, e]; omega
  unfold put
  rw [List.append_assoc, List.drop_left' h1, List.take_left' rfl]
theorem read_up {s : St} {f a n : Int} (hd : s.down = false) (hf : isF f) (h0 : 0 ≤ a) (h1 : 0 ≤ n) : s.read f a n = (((s.now f).drop a.toNat).take n.toNat, 0) := by
  unfold St.read
  rw [if_neg (by simp [hd]), if_neg (by rintro (h | h | h); exact h hf; all_goals omega)]
theorem read_all {s : St} (hi : Inv s) {f : Int} (hd : s.down = false) (hf : isF f) : s.read f 0 16777216 = (s.now f, 0) := by
  rw [read_up hd hf (by omega) (by omega)]
  have := hi.cap f
  rw [List.take_of_length_le (by simpa using this)]
  rfl
theorem hardAll_nil (now : Files) (pend : List Sec) (L : Files) : ∀ k, hardAll now (surv []) pend L k = L
  | 0 => rfl
  | k + 1 => by
    rw [hardAll, hardAll_nil now pend L k]
    simp [surv]
theorem trunc_up {s : St} {f n : Int} (hd : s.down = false) (ha : s.armed = 0) (hf : isF f) (h0 : 0 ≤ n) (h1 : n ≤ (s.size f : Int)) :
    (s.trunc f n).2 = 0 ∧ (s.trunc f n).1.down = false ∧ (s.trunc f n).1.last f = (s.now f).take n.toNat ∧ (s.trunc f n).1.now f = (s.now f).take n.toNat := by
  have hb : s.begin f = (s.tick, 0) := by
    unfold St.begin
    rw [if_neg (by simp [hd]), if_pos hf]
    unfold St.strike
    rw [if_neg (by omega)]
  unfold St.trunc
  rw [hb, if_neg (by simp), if_neg (by
    show ¬ (n < 0 ∨ (s.size f : Int) < n)
    omega)]
  exact ⟨rfl, hd, upd_same _ _ _, upd_same _ _ _⟩
theorem crash_nil {s : St} {f : Int} (hd : s.down = false) : (s.crash []).start.now f = s.last f ∧ (s.crash []).start.down = false := by
  unfold St.crash
  rw [if_neg (by simp [hd])]
  exact ⟨by show hardAll _ _ _ _ _ f = _; rw [hardAll_nil], rfl⟩
theorem inv_act {s : St} {A : ActV} (h : Inv s) (hn : A.n ≤ 9223372036854775807) : Inv (actS s A).1 := by
  unfold actS
  split
  · exact inv_sync h _
  split
  · exact inv_trunc h _ _
  split
  · exact inv_lose h (by omega)
  split
  · exact inv_arm h hn _
  split
  · exact inv_crash h _
  split
  · exact inv_start h
  · exact inv_write h _ _ _
theorem inv_runs : ∀ (l : List ActV) {s : St}, Inv s → (∀ A ∈ l, A.n ≤ 9223372036854775807) → Inv (runActs s l)
  | [], s, h, _ => h
  | A :: r, s, h, hl => inv_runs r (inv_act h (hl A (by simp))) (fun B hB => hl B (by simp [hB]))
theorem ActsAt.inv {B : Nat} {w : World} {a : Option Addr} {l : List ActV} (h : ActsAt B w a l) : Inv (runActs St.new l) := inv_runs l inv_new (fun A hA => (h.ok A hA).n.2)
end Go.Proofs.Ytgebfhikahjahaa
