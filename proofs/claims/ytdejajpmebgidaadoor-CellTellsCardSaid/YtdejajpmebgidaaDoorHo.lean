/-
  THE REFERENCE's DISK AMONG OTHER THINGS, from one call to the next.
-/
import Derived.Test.YtdejajpmebgidaaDoorHn
namespace Go.Proofs.YtdejajpmebgidaaDoor
open Go.RowKit Go.Maps WireM DiskM
set_option linter.unusedVariables false
set_option linter.unusedSimpArgs false
set_option maxRecDepth 100000

def kRef (r : Nat) (s : St) : Kd where
  is := fun M w => ∃ q, RIs w r s q ∧ ∀ b, M b ↔ RMine r q b
  lt := fun M w ⟨q, h, hm⟩ b hb => h.lt ((hm b).1 hb)
  same := fun M w w' ⟨q, h, hm⟩ he => ⟨q, h.sameI (fun b hb => he b ((hm b).2 hb)), hm⟩
theorem kturn_ref {M : Nat → Prop} {w w' : World} {r : Nat} {s' : St} {q : RP} (hm : ∀ b, M b ↔ RMine r q b) (ht : RTurn w r q s' w') : KTurn M w (kRef r s') w' := by
  obtain ⟨q', h1, m1, c1⟩ := ht
  exact ⟨RMine r q', ⟨q', h1, fun _ => Iff.rfl⟩, fun b hb => (m1 b hb).imp (hm b).2 id, c1.mono (fun k _ h => (hm k).2 h)⟩
theorem Tog.rnew {w0 w : World} {l : List Kd} (h : Tog w0 w l) : Calls Tryd.prog 8 #[] w fun e w' => ∃ r, e = .returned (.pointer (some ⟨r, 0, none⟩)) ∧ Tog w0 w' (l ++ [kRef r St.new]) := by
  refine (rnew_any w).mono ?_
  rintro e w' ⟨r, q, rfl, h1, h2, h3⟩
  exact ⟨r, rfl, h.add ⟨RMine r q, ⟨q, h1, fun _ => Iff.rfl⟩, h2⟩ h3⟩
theorem Tog.rread {w0 w : World} {l : List Kd} (h : Tog w0 w l) {i r : Nat} {s : St} (hi : l[i]? = some (kRef r s)) (f a n : Int) (ha : InI a) (hn : InI n) : Calls Tryd.prog 26 #[.pointer (some ⟨r, 0, none⟩), .int .i64 f, .int .i64 a, .int .i64 n] w fun e w' => e = .returned (.tuple #[.string (bs (s.read f a n).1), .int .i64 (s.read f a n).2]) ∧ Tog w0 w' l := by
  obtain ⟨M, ⟨q, h1, h2⟩, _⟩ := h.focus hi
  refine (rread_any h1 f a n ha hn).mono ?_
  rintro e w' ⟨rfl, b⟩
  exact ⟨rfl, h.on b⟩
theorem Tog.rsize {w0 w : World} {l : List Kd} (h : Tog w0 w l) {i r : Nat} {s : St} (hi : l[i]? = some (kRef r s)) (f : Int) : Calls Tryd.prog 27 #[.pointer (some ⟨r, 0, none⟩), .int .i64 f] w fun e w' => e = .returned (.int .i64 (s.size f)) ∧ Tog w0 w' l := by
  obtain ⟨M, ⟨q, h1, h2⟩, _⟩ := h.focus hi
  refine (rsize_any h1.toR0 f).mono ?_
  rintro e w' ⟨rfl, b⟩
  exact ⟨rfl, h.on b⟩
theorem Tog.rwrite {w0 w : World} {l : List Kd} (h : Tog w0 w l) {i r : Nat} {s : St} (hi : l[i]? = some (kRef r s)) (f a : Int) (t : ByteArray) (ha : InI a) (ht : t.size ≤ 1099511627776) : Calls Tryd.prog 29 #[.pointer (some ⟨r, 0, none⟩), .int .i64 f, .int .i64 a, .string t] w fun e w' => e = .returned (.int .i64 (s.write f a t.data.toList).2) ∧ Tog w0 w' (l.set i (kRef r (s.write f a t.data.toList).1)) := by
  obtain ⟨M, ⟨q, h1, h2⟩, _, h5⟩ := h.focus hi
  refine (rwrite_any h1 f a t ha ht).mono ?_
  rintro e w' ⟨rfl, ht⟩
  exact ⟨rfl, h5 _ _ (kturn_ref h2 (ht.toI (inv_write h1.inv f a _)))⟩
theorem Tog.rsync {w0 w : World} {l : List Kd} (h : Tog w0 w l) {i r : Nat} {s : St} (hi : l[i]? = some (kRef r s)) (f : Int) : Calls Tryd.prog 35 #[.pointer (some ⟨r, 0, none⟩), .int .i64 f] w fun e w' => e = .returned (.int .i64 (s.sync f).2) ∧ Tog w0 w' (l.set i (kRef r (s.sync f).1)) := by
  obtain ⟨M, ⟨q, h1, h2⟩, _, h5⟩ := h.focus hi
  refine (rsync_any h1 f).mono ?_
  rintro e w' ⟨rfl, ht⟩
  exact ⟨rfl, h5 _ _ (kturn_ref h2 (ht.toI (inv_sync h1.inv f)))⟩
theorem Tog.rstart {w0 w : World} {l : List Kd} (h : Tog w0 w l) {i r : Nat} {s : St} (hi : l[i]? = some (kRef r s)) : Calls Tryd.prog 19 #[.pointer (some ⟨r, 0, none⟩)] w fun e w' => e = .returned (.tuple #[]) ∧ Tog w0 w' (l.set i (kRef r s.start)) := by
  obtain ⟨M, ⟨q, h1, h2⟩, _, h5⟩ := h.focus hi
  refine (rstart_any h1).mono ?_
  rintro e w' ⟨rfl, ht⟩
  exact ⟨rfl, h5 _ _ (kturn_ref h2 ht)⟩
theorem Tog.rlose {w0 w : World} {l : List Kd} (h : Tog w0 w l) {i r : Nat} {s : St} (hi : l[i]? = some (kRef r s)) (n : Int) (hn : n ≤ 9223372036854775807) : Calls Tryd.prog 14 #[.pointer (some ⟨r, 0, none⟩), .int .i64 n] w fun e w' => e = .returned (.tuple #[]) ∧ Tog w0 w' (l.set i (kRef r (s.lose n))) := by
  obtain ⟨M, ⟨q, h1, h2⟩, _, h5⟩ := h.focus hi
  refine (rlose_any h1 n hn).mono ?_
  rintro e w' ⟨rfl, ht⟩
  exact ⟨rfl, h5 _ _ (kturn_ref h2 ht)⟩
theorem Tog.rcrash {w0 w : World} {l : List Kd} (h : Tog w0 w l) {i r : Nat} {s : St} (hi : l[i]? = some (kRef r s)) {a : Option Addr} {c : Nat} {k : List Int} (K : NumsAt w0 a c k) : Calls Tryd.prog 18 #[.pointer (some ⟨r, 0, none⟩), .slice a k.length c] w fun e w' => e = .returned (.tuple #[]) ∧ Tog w0 w' (l.set i (kRef r (s.crash k))) := by
  obtain ⟨M, ⟨q, h1, h2⟩, h4, h5⟩ := h.focus hi
  refine (rcrash_any h1.toR0 h1.inv _ k (K.at h.bel) (fun hne b e => ⟨Nat.lt_of_lt_of_le (K.low hne b e) h.bel.size, fun hw => by have := K.low hne b e; have := h4 b ((h2 b).2 hw.mine); omega⟩) K.len).mono ?_
  rintro e w' ⟨rfl, ht⟩
  exact ⟨rfl, h5 _ _ (kturn_ref h2 (ht.toI (inv_crash h1.inv k)))⟩
theorem Tog.rarm {w0 w : World} {l : List Kd} (h : Tog w0 w l) {i r : Nat} {s : St} (hi : l[i]? = some (kRef r s)) {a : Option Addr} {c : Nat} {k : List Int} (K : NumsAt w0 a c k) (n : Int) (hn : n ≤ 9223372036854775807) : Calls Tryd.prog 16 #[.pointer (some ⟨r, 0, none⟩), .int .i64 n, .slice a k.length c] w fun e w' => e = .returned (.tuple #[]) ∧ Tog w0 w' (l.set i (kRef r (s.arm n k))) := by
  obtain ⟨M, ⟨q, h1, h2⟩, h4, h5⟩ := h.focus hi
  refine (rarm_any h1 n hn _ k (K.at h.bel) (fun hne e => by have := K.low hne r e; have := h4 r ((h2 r).2 (.inl rfl)); omega) K.len).mono ?_
  rintro e w' ⟨rfl, ht⟩
  exact ⟨rfl, h5 _ _ (kturn_ref h2 ht)⟩
end Go.Proofs.YtdejajpmebgidaaDoor
