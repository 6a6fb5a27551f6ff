/-
  THE LAWS' do, model, few, count, small.
-/
import Derived.Test.YtgdcocfekjlhfaaBk
import Derived.Test.YtgdcocfekjlhfaaBo
namespace Go.Proofs.Ytgdcocfekjlhfaa
open Go.RowKit
set_option linter.unusedVariables false
set_option linter.unusedSimpArgs false
set_option maxRecDepth 100000
/-- An operation. -/
structure OpV where
  d : Int
  n : Int
  s : ByteArray
instance : Inhabited OpV := ⟨⟨0, 0, .empty⟩⟩
def OpV.cells (A : OpV) : Array Value := #[.int .i64 A.d, .int .i64 A.n, .string A.s]
structure OpV.Ok (A : OpV) : Prop where
  d : InI A.d
  n : InI A.n
  s : A.s.size ≤ maxLen
def LS.op (s : LS) (A : OpV) : LS × Pk × Int :=
  if A.d % 8 = 3 then s.deliver A.n
  else if A.d % 8 = 4 then ((s.drop A.n).1, Pk.zero, (s.drop A.n).2)
  else if A.d % 8 = 5 then ((s.double A.n).1, Pk.zero, (s.double A.n).2)
  else if A.d % 8 = 6 then (s.cutS, Pk.zero, 0)
  else if A.d % 8 = 7 then (s.join, Pk.zero, 0)
  else ((s.send A.n A.s).1, Pk.zero, (s.send A.n A.s).2)
theorem and7 (x : Int) : bits .and .i64 x 7 = x % 8 := by
  show IntKind.i64.wrap (((BitVec.ofInt 64 x &&& BitVec.ofInt 64 7).toNat : Nat) : Int) = x % 8
  rw [BitVec.toNat_and, BitVec.toNat_ofInt, BitVec.toNat_ofInt, show ((7 : Int) % ((2 ^ 64 : Nat) : Int)).toNat = 2 ^ 3 - 1 by decide, Nat.and_two_pow_sub_one_eq_mod, IntKind.wrap_i64]
  omega
theorem and1 (x : Int) : bits .and .i64 x 1 = x % 2 := by
  show IntKind.i64.wrap (((BitVec.ofInt 64 x &&& BitVec.ofInt 64 1).toNat : Nat) : Int) = x % 2
  rw [BitVec.toNat_and, BitVec.toNat_ofInt, BitVec.toNat_ofInt, show ((1 : Int) % ((2 ^ 64 : Nat) : Int)).toNat = 2 ^ 1 - 1 by decide, Nat.and_two_pow_sub_one_eq_mod, IntKind.wrap_i64]
  omega
def fewB (L : List OpV) (n : Int) : Bool := decide (∀ A ∈ L, A.s.size ≤ 100) && decide ((L.length : Int) ≤ n)
def cnt (L : List Pk) (q : Pk) : Nat := L.countP (fun x => decide (x = q))
theorem cnt_app (L M : List Pk) (q : Pk) : cnt (L ++ M) q = cnt L q + cnt M q := List.countP_append
theorem cnt_one (q : Pk) : cnt [q] q = 1 := by simp [cnt]
theorem cnt_other {p q : Pk} (h : ¬ p = q) : cnt [p] q = 0 := by simp [cnt, h]
theorem cnt_nil (q : Pk) : cnt [] q = 0 := rfl
section
variable {w0 w : World} {S : Nat → Prop} {l : List Kd}
/-- What do and model do around their calls. -/
theorem Tog.doEnd (h : Tog w0 S w l) {T : TypeId} {i p : Nat} {s : LS} (hi : l[i]? = some (kLink T p s)) (cs : Array Value) (t : TypeId) : ∃ M, Tog w M ((w.alloc (.cells cs t)).alloc (.cells #[.int .i64 0, .string ⟨#[]⟩] 30)) [kLink T p s, kHeap w.heap.size (.cells cs t (0, 0)), kHeap (w.heap.size + 1) (.cells #[.int .i64 0, .string ⟨#[]⟩] 30 (0, 0))] ∧
    ∀ s' w' q1 q2, Tog w M w' [kLink T p s', kHeap w.heap.size (.cells cs t (0, 0)), kHeap (w.heap.size + 1) (.cells #[.int .i64 0, .string ⟨#[]⟩] 30 (0, 0))] →
      (w'.frozen? ⟨w.heap.size + 1, 0, none⟩ = false ∧ w'.cell? ⟨w.heap.size + 1, 0, none⟩ = some (.int .i64 0)) ∧
      ((w'.setCell ⟨w.heap.size + 1, 0, none⟩ (.int .i64 q1)).frozen? ⟨w.heap.size + 1, 1, none⟩ = false ∧ (w'.setCell ⟨w.heap.size + 1, 0, none⟩ (.int .i64 q1)).cell? ⟨w.heap.size + 1, 1, none⟩ = some (.string ⟨#[]⟩)) ∧
      ((w'.setCell ⟨w.heap.size + 1, 0, none⟩ (.int .i64 q1)).setCell ⟨w.heap.size + 1, 1, none⟩ (.string q2)).heap[w.heap.size + 1]? = some (.cells #[.int .i64 q1, .string q2] 30 (0, 0)) ∧
      Tog w0 S ((w'.setCell ⟨w.heap.size + 1, 0, none⟩ (.int .i64 q1)).setCell ⟨w.heap.size + 1, 1, none⟩ (.string q2)) (l.set i (kLink T p s')) := by
  obtain ⟨M, h0, CL⟩ := h.inner hi
  have h2 := (h0.block (.cells cs t)).block (.cells #[.int .i64 0, .string ⟨#[]⟩] 30)
  rw [show (w.alloc (.cells cs t)).heap.size = w.heap.size + 1 by simp] at h2
  refine ⟨M, h2, fun s' w' q1 q2 T => ?_⟩
  have t1 := T.store (j := 2) rfl 0 (.int .i64 q1)
  have t2 := t1.store (j := 2) rfl 1 (.string q2)
  exact ⟨⟨T.fzAt (j := 2) rfl 0, T.cellAt (j := 2) rfl 0 rfl⟩, ⟨t1.fzAt (j := 2) rfl 1, t1.cellAt (j := 2) rfl 1 rfl⟩, t2.heapAt (j := 2) rfl, (CL _ _ _ t2).front⟩
set_option maxHeartbeats 1000000 in
theorem Tog.xdo (h : Tog w0 S w l) {i p : Nat} {s : LS} (hi : l[i]? = some (kLink 53 p s)) (A : OpV) (ok : A.Ok) : Calls Try.prog 13 #[.pointer (some ⟨p, 0, none⟩), .agg #[.int .i64 A.d, .int .i64 A.n, .string A.s]] w fun e w' => e = .returned (.tuple #[pkVal (s.op A).2.1, .int .i64 (s.op A).2.2]) ∧ Tog w0 S w' (l.set i (kLink 53 p (s.op A).1)) := by
  obtain ⟨M, T0, FIN⟩ := h.doEnd hi #[.int .i64 A.d, .int .i64 A.n, .string A.s] 35
  have okn := ok.n
  obtain ⟨d, n, b⟩ := A
  simp only at T0 FIN okn
  have HF := Lib.hid FIN
  have hb0 := and7 d
  obtain ⟨r, hr⟩ : ∃ r, d % 8 = r := ⟨_, rfl⟩
  rw [hr] at hb0
  have c0 : ((w.alloc (.cells #[.int .i64 d, .int .i64 n, .string b] 35)).alloc (.cells #[.int .i64 0, .string ⟨#[]⟩] 30)).cell? ⟨w.heap.size, 0, none⟩ = some (.int .i64 d) := T0.cellAt (j := 1) rfl 0 rfl
  have c1 : ((w.alloc (.cells #[.int .i64 d, .int .i64 n, .string b] 35)).alloc (.cells #[.int .i64 0, .string ⟨#[]⟩] 30)).cell? ⟨w.heap.size, 1, none⟩ = some (.int .i64 n) := T0.cellAt (j := 1) rfl 1 rfl
  have c2 : ((w.alloc (.cells #[.int .i64 d, .int .i64 n, .string b] 35)).alloc (.cells #[.int .i64 0, .string ⟨#[]⟩] 30)).cell? ⟨w.heap.size, 2, none⟩ = some (.string b) := T0.cellAt (j := 1) rfl 2 rfl
  have hr2 : r = 0 ∨ r = 1 ∨ r = 2 ∨ r = 3 ∨ r = 4 ∨ r = 5 ∨ r = 6 ∨ r = 7 := by omega
  rcases hr2 with rfl | rfl | rfl | rfl | rfl | rfl | rfl | rfl
  · have E : s.op ⟨d, n, b⟩ = ((s.send n b).1, Pk.zero, (s.send n b).2) := by unfold LS.op; simp only [hr]; rfl
    rw [E]
    have C := Lib.hid (T0.xsend (i := 0) rfl n b okn)
    generalize s.send n b = R at *
    obtain ⟨s', er⟩ := R
    simp only [pkVal, Pk.zero] at C ⊢
    clear h hi hr ok okn FIN T0 E
    go_enter Try.func13, Try.ntmps13
    go_wp2_with (go_at_call 20; refine C.out.mono ?_; rintro e w' ⟨rfl, t⟩; obtain ⟨⟨f1, f2⟩, ⟨f3, f4⟩, f5, f6⟩ := HF.out _ w' 0 ⟨#[]⟩ t; have T := Lib.hid f6; clear t f6)
    ((try simp only [Exit.inBlock, Exit.then]); refine bodyPost_ret (results_pk rfl _ _ rfl f5) rfl ?_)
    exact ⟨rfl, T.out⟩
  · have E : s.op ⟨d, n, b⟩ = ((s.send n b).1, Pk.zero, (s.send n b).2) := by unfold LS.op; simp only [hr]; rfl
    rw [E]
    have C := Lib.hid (T0.xsend (i := 0) rfl n b okn)
    generalize s.send n b = R at *
    obtain ⟨s', er⟩ := R
    simp only [pkVal, Pk.zero] at C ⊢
    clear h hi hr ok okn FIN T0 E
    go_enter Try.func13, Try.ntmps13
    go_wp2_with (go_at_call 20; refine C.out.mono ?_; rintro e w' ⟨rfl, t⟩; obtain ⟨⟨f1, f2⟩, ⟨f3, f4⟩, f5, f6⟩ := HF.out _ w' 0 ⟨#[]⟩ t; have T := Lib.hid f6; clear t f6)
    ((try simp only [Exit.inBlock, Exit.then]); refine bodyPost_ret (results_pk rfl _ _ rfl f5) rfl ?_)
    exact ⟨rfl, T.out⟩
  · have E : s.op ⟨d, n, b⟩ = ((s.send n b).1, Pk.zero, (s.send n b).2) := by unfold LS.op; simp only [hr]; rfl
    rw [E]
    have C := Lib.hid (T0.xsend (i := 0) rfl n b okn)
    generalize s.send n b = R at *
    obtain ⟨s', er⟩ := R
    simp only [pkVal, Pk.zero] at C ⊢
    clear h hi hr ok okn FIN T0 E
    go_enter Try.func13, Try.ntmps13
    go_wp2_with (go_at_call 20; refine C.out.mono ?_; rintro e w' ⟨rfl, t⟩; obtain ⟨⟨f1, f2⟩, ⟨f3, f4⟩, f5, f6⟩ := HF.out _ w' 0 ⟨#[]⟩ t; have T := Lib.hid f6; clear t f6)
    ((try simp only [Exit.inBlock, Exit.then]); refine bodyPost_ret (results_pk rfl _ _ rfl f5) rfl ?_)
    exact ⟨rfl, T.out⟩
  · have E : s.op ⟨d, n, b⟩ = s.deliver n := by unfold LS.op; simp only [hr]; rfl
    rw [E]
    have C := Lib.hid (T0.xdeliver (i := 0) rfl n okn)
    generalize s.deliver n = R at *
    obtain ⟨s', ⟨q1, q2⟩, er⟩ := R
    simp only [pkVal] at C ⊢
    clear h hi hr ok okn FIN T0 E
    go_enter Try.func13, Try.ntmps13
    go_wp2_with (go_at_call 21; refine C.out.mono ?_; rintro e w' ⟨rfl, t⟩; obtain ⟨⟨f1, f2⟩, ⟨f3, f4⟩, f5, f6⟩ := HF.out _ w' q1 q2 t; have T := Lib.hid f6; clear t f6)
    ((try simp only [Exit.inBlock, Exit.then]); refine bodyPost_ret (results_pk rfl _ _ rfl f5) rfl ?_)
    exact ⟨rfl, T.out⟩
  · have E : s.op ⟨d, n, b⟩ = ((s.drop n).1, Pk.zero, (s.drop n).2) := by unfold LS.op; simp only [hr]; rfl
    rw [E]
    have C := Lib.hid (T0.xdrop (i := 0) rfl n okn)
    generalize s.drop n = R at *
    obtain ⟨s', er⟩ := R
    simp only [pkVal, Pk.zero] at C ⊢
    clear h hi hr ok okn FIN T0 E
    go_enter Try.func13, Try.ntmps13
    go_wp2_with (go_at_call 23; refine C.out.mono ?_; rintro e w' ⟨rfl, t⟩; obtain ⟨⟨f1, f2⟩, ⟨f3, f4⟩, f5, f6⟩ := HF.out _ w' 0 ⟨#[]⟩ t; have T := Lib.hid f6; clear t f6)
    ((try simp only [Exit.inBlock, Exit.then]); refine bodyPost_ret (results_pk rfl _ _ rfl f5) rfl ?_)
    exact ⟨rfl, T.out⟩
  · have E : s.op ⟨d, n, b⟩ = ((s.double n).1, Pk.zero, (s.double n).2) := by unfold LS.op; simp only [hr]; rfl
    rw [E]
    have C := Lib.hid (T0.xdouble (i := 0) rfl n okn)
    generalize s.double n = R at *
    obtain ⟨s', er⟩ := R
    simp only [pkVal, Pk.zero] at C ⊢
    clear h hi hr ok okn FIN T0 E
    go_enter Try.func13, Try.ntmps13
    go_wp2_with (go_at_call 22; refine C.out.mono ?_; rintro e w' ⟨rfl, t⟩; obtain ⟨⟨f1, f2⟩, ⟨f3, f4⟩, f5, f6⟩ := HF.out _ w' 0 ⟨#[]⟩ t; have T := Lib.hid f6; clear t f6)
    ((try simp only [Exit.inBlock, Exit.then]); refine bodyPost_ret (results_pk rfl _ _ rfl f5) rfl ?_)
    exact ⟨rfl, T.out⟩
  · have E : s.op ⟨d, n, b⟩ = (s.cutS, Pk.zero, 0) := by unfold LS.op; simp only [hr]; rfl
    rw [E]
    have C := Lib.hid (T0.xcut (i := 0) rfl)
    simp only [pkVal, Pk.zero] at C ⊢
    clear h hi hr ok okn FIN T0 E
    go_enter Try.func13, Try.ntmps13
    go_wp2_with (go_at_call 24; refine C.out.mono ?_; rintro e w' ⟨rfl, t⟩; obtain ⟨⟨f1, f2⟩, ⟨f3, f4⟩, f5, f6⟩ := HF.out _ w' 0 ⟨#[]⟩ t; have T := Lib.hid f6; clear t f6)
    ((try simp only [Exit.inBlock, Exit.then]); refine bodyPost_ret (results_pk rfl _ _ rfl f5) rfl ?_)
    exact ⟨rfl, T.out⟩
  · have E : s.op ⟨d, n, b⟩ = (s.join, Pk.zero, 0) := by unfold LS.op; simp only [hr]; rfl
    rw [E]
    have C := Lib.hid (T0.xjoin (i := 0) rfl)
    simp only [pkVal, Pk.zero] at C ⊢
    clear h hi hr ok okn FIN T0 E
    go_enter Try.func13, Try.ntmps13
    go_wp2_with (go_at_call 25; refine C.out.mono ?_; rintro e w' ⟨rfl, t⟩; obtain ⟨⟨f1, f2⟩, ⟨f3, f4⟩, f5, f6⟩ := HF.out _ w' 0 ⟨#[]⟩ t; have T := Lib.hid f6; clear t f6)
    ((try simp only [Exit.inBlock, Exit.then]); refine bodyPost_ret (results_pk rfl _ _ rfl f5) rfl ?_)
    exact ⟨rfl, T.out⟩
set_option maxHeartbeats 1000000 in
theorem Tog.rmodel (h : Tog w0 S w l) {i p : Nat} {s : LS} (hi : l[i]? = some (kLink 40 p s)) (A : OpV) (ok : A.Ok) : Calls Try.prog 14 #[.pointer (some ⟨p, 0, none⟩), .agg #[.int .i64 A.d, .int .i64 A.n, .string A.s]] w fun e w' => e = .returned (.tuple #[pkVal (s.op A).2.1, .int .i64 (s.op A).2.2]) ∧ Tog w0 S w' (l.set i (kLink 40 p (s.op A).1)) := by
  obtain ⟨M, T0, FIN⟩ := h.doEnd hi #[.int .i64 A.d, .int .i64 A.n, .string A.s] 35
  have okn := ok.n
  obtain ⟨d, n, b⟩ := A
  simp only at T0 FIN okn
  have HF := Lib.hid FIN
  have hb0 := and7 d
  obtain ⟨r, hr⟩ : ∃ r, d % 8 = r := ⟨_, rfl⟩
  rw [hr] at hb0
  have c0 : ((w.alloc (.cells #[.int .i64 d, .int .i64 n, .string b] 35)).alloc (.cells #[.int .i64 0, .string ⟨#[]⟩] 30)).cell? ⟨w.heap.size, 0, none⟩ = some (.int .i64 d) := T0.cellAt (j := 1) rfl 0 rfl
  have c1 : ((w.alloc (.cells #[.int .i64 d, .int .i64 n, .string b] 35)).alloc (.cells #[.int .i64 0, .string ⟨#[]⟩] 30)).cell? ⟨w.heap.size, 1, none⟩ = some (.int .i64 n) := T0.cellAt (j := 1) rfl 1 rfl
  have c2 : ((w.alloc (.cells #[.int .i64 d, .int .i64 n, .string b] 35)).alloc (.cells #[.int .i64 0, .string ⟨#[]⟩] 30)).cell? ⟨w.heap.size, 2, none⟩ = some (.string b) := T0.cellAt (j := 1) rfl 2 rfl
  have hr2 : r = 0 ∨ r = 1 ∨ r = 2 ∨ r = 3 ∨ r = 4 ∨ r = 5 ∨ r = 6 ∨ r = 7 := by omega
  rcases hr2 with rfl | rfl | rfl | rfl | rfl | rfl | rfl | rfl
  · have E : s.op ⟨d, n, b⟩ = ((s.send n b).1, Pk.zero, (s.send n b).2) := by unfold LS.op; simp only [hr]; rfl
    rw [E]
    have C := Lib.hid (T0.rsend (i := 0) rfl n b)
    generalize s.send n b = R at *
    obtain ⟨s', er⟩ := R
    simp only [pkVal, Pk.zero] at C ⊢
    clear h hi hr ok okn FIN T0 E
    go_enter Try.func14, Try.ntmps14
    go_wp2_with (go_at_call 31; refine C.out.mono ?_; rintro e w' ⟨rfl, t⟩; obtain ⟨⟨f1, f2⟩, ⟨f3, f4⟩, f5, f6⟩ := HF.out _ w' 0 ⟨#[]⟩ t; have T := Lib.hid f6; clear t f6)
    ((try simp only [Exit.inBlock, Exit.then]); refine bodyPost_ret (results_pk rfl _ _ rfl f5) rfl ?_)
    exact ⟨rfl, T.out⟩
  · have E : s.op ⟨d, n, b⟩ = ((s.send n b).1, Pk.zero, (s.send n b).2) := by unfold LS.op; simp only [hr]; rfl
    rw [E]
    have C := Lib.hid (T0.rsend (i := 0) rfl n b)
    generalize s.send n b = R at *
    obtain ⟨s', er⟩ := R
    simp only [pkVal, Pk.zero] at C ⊢
    clear h hi hr ok okn FIN T0 E
    go_enter Try.func14, Try.ntmps14
    go_wp2_with (go_at_call 31; refine C.out.mono ?_; rintro e w' ⟨rfl, t⟩; obtain ⟨⟨f1, f2⟩, ⟨f3, f4⟩, f5, f6⟩ := HF.out _ w' 0 ⟨#[]⟩ t; have T := Lib.hid f6; clear t f6)
    ((try simp only [Exit.inBlock, Exit.then]); refine bodyPost_ret (results_pk rfl _ _ rfl f5) rfl ?_)
    exact ⟨rfl, T.out⟩
  · have E : s.op ⟨d, n, b⟩ = ((s.send n b).1, Pk.zero, (s.send n b).2) := by unfold LS.op; simp only [hr]; rfl
    rw [E]
    have C := Lib.hid (T0.rsend (i := 0) rfl n b)
    generalize s.send n b = R at *
    obtain ⟨s', er⟩ := R
    simp only [pkVal, Pk.zero] at C ⊢
    clear h hi hr ok okn FIN T0 E
    go_enter Try.func14, Try.ntmps14
    go_wp2_with (go_at_call 31; refine C.out.mono ?_; rintro e w' ⟨rfl, t⟩; obtain ⟨⟨f1, f2⟩, ⟨f3, f4⟩, f5, f6⟩ := HF.out _ w' 0 ⟨#[]⟩ t; have T := Lib.hid f6; clear t f6)
    ((try simp only [Exit.inBlock, Exit.then]); refine bodyPost_ret (results_pk rfl _ _ rfl f5) rfl ?_)
    exact ⟨rfl, T.out⟩
  · have E : s.op ⟨d, n, b⟩ = s.deliver n := by unfold LS.op; simp only [hr]; rfl
    rw [E]
    have C := Lib.hid (T0.rdeliver (i := 0) rfl n)
    generalize s.deliver n = R at *
    obtain ⟨s', ⟨q1, q2⟩, er⟩ := R
    simp only [pkVal] at C ⊢
    clear h hi hr ok okn FIN T0 E
    go_enter Try.func14, Try.ntmps14
    go_wp2_with (go_at_call 26; refine C.out.mono ?_; rintro e w' ⟨rfl, t⟩; obtain ⟨⟨f1, f2⟩, ⟨f3, f4⟩, f5, f6⟩ := HF.out _ w' q1 q2 t; have T := Lib.hid f6; clear t f6)
    ((try simp only [Exit.inBlock, Exit.then]); refine bodyPost_ret (results_pk rfl _ _ rfl f5) rfl ?_)
    exact ⟨rfl, T.out⟩
  · have E : s.op ⟨d, n, b⟩ = ((s.drop n).1, Pk.zero, (s.drop n).2) := by unfold LS.op; simp only [hr]; rfl
    rw [E]
    have C := Lib.hid (T0.rdrop (i := 0) rfl n)
    generalize s.drop n = R at *
    obtain ⟨s', er⟩ := R
    simp only [pkVal, Pk.zero] at C ⊢
    clear h hi hr ok okn FIN T0 E
    go_enter Try.func14, Try.ntmps14
    go_wp2_with (go_at_call 27; refine C.out.mono ?_; rintro e w' ⟨rfl, t⟩; obtain ⟨⟨f1, f2⟩, ⟨f3, f4⟩, f5, f6⟩ := HF.out _ w' 0 ⟨#[]⟩ t; have T := Lib.hid f6; clear t f6)
    ((try simp only [Exit.inBlock, Exit.then]); refine bodyPost_ret (results_pk rfl _ _ rfl f5) rfl ?_)
    exact ⟨rfl, T.out⟩
  · have E : s.op ⟨d, n, b⟩ = ((s.double n).1, Pk.zero, (s.double n).2) := by unfold LS.op; simp only [hr]; rfl
    rw [E]
    have C := Lib.hid (T0.rdouble (i := 0) rfl n)
    generalize s.double n = R at *
    obtain ⟨s', er⟩ := R
    simp only [pkVal, Pk.zero] at C ⊢
    clear h hi hr ok okn FIN T0 E
    go_enter Try.func14, Try.ntmps14
    go_wp2_with (go_at_call 28; refine C.out.mono ?_; rintro e w' ⟨rfl, t⟩; obtain ⟨⟨f1, f2⟩, ⟨f3, f4⟩, f5, f6⟩ := HF.out _ w' 0 ⟨#[]⟩ t; have T := Lib.hid f6; clear t f6)
    ((try simp only [Exit.inBlock, Exit.then]); refine bodyPost_ret (results_pk rfl _ _ rfl f5) rfl ?_)
    exact ⟨rfl, T.out⟩
  · have E : s.op ⟨d, n, b⟩ = (s.cutS, Pk.zero, 0) := by unfold LS.op; simp only [hr]; rfl
    rw [E]
    have C := Lib.hid (T0.rcut (i := 0) rfl)
    simp only [pkVal, Pk.zero] at C ⊢
    clear h hi hr ok okn FIN T0 E
    go_enter Try.func14, Try.ntmps14
    go_wp2_with (go_at_call 29; refine C.out.mono ?_; rintro e w' ⟨rfl, t⟩; obtain ⟨⟨f1, f2⟩, ⟨f3, f4⟩, f5, f6⟩ := HF.out _ w' 0 ⟨#[]⟩ t; have T := Lib.hid f6; clear t f6)
    ((try simp only [Exit.inBlock, Exit.then]); refine bodyPost_ret (results_pk rfl _ _ rfl f5) rfl ?_)
    exact ⟨rfl, T.out⟩
  · have E : s.op ⟨d, n, b⟩ = (s.join, Pk.zero, 0) := by unfold LS.op; simp only [hr]; rfl
    rw [E]
    have C := Lib.hid (T0.rjoin (i := 0) rfl)
    simp only [pkVal, Pk.zero] at C ⊢
    clear h hi hr ok okn FIN T0 E
    go_enter Try.func14, Try.ntmps14
    go_wp2_with (go_at_call 30; refine C.out.mono ?_; rintro e w' ⟨rfl, t⟩; obtain ⟨⟨f1, f2⟩, ⟨f3, f4⟩, f5, f6⟩ := HF.out _ w' 0 ⟨#[]⟩ t; have T := Lib.hid f6; clear t f6)
    ((try simp only [Exit.inBlock, Exit.then]); refine bodyPost_ret (results_pk rfl _ _ rfl f5) rfl ?_)
    exact ⟨rfl, T.out⟩
set_option maxHeartbeats 1000000 in
theorem few_any {B : Nat} {a : Option Addr} {c : Nat} {L : List OpV} (h : RowsAt OpV.cells OpV.Ok 3 B w a L) (n : Int) (hL : L.length ≤ maxLen) :
    Calls Try.prog 10 #[.slice a L.length c, .int .i64 n] w fun e w' => e = .returned (.bool (fewB L n)) ∧ w = w' := by
  have CE := Lib.hid (fun i A (hA : L[i]? = some A) => h.one (Below.refl B w) hA)
  have OK := Lib.hid h.ok
  have HL := Lib.hid (show L.length ≤ 9223372036854775807 by unfold maxLen at hL; omega)
  clear h hL
  go_enter Try.func10, Try.ntmps10
  go_wp2_with fail
  go_loopw [5] (fun i wr => ∃ j : Nat, j ≤ L.length ∧ i = .int .i64 (j : Int) ∧ wr = w ∧ Hid (∀ m A, m < j → L[m]? = some A → A.s.size ≤ 100)) (fun i _ => L.length - (intOf i).toNat)
  case atStart => exact ⟨0, Nat.zero_le _, rfl, rfl, Lib.hid (fun m A hm => by omega)⟩
  case round =>
    obtain ⟨j, hj, rfl, rfl, HO⟩ := hrel
    by_cases hlt : j < L.length
    · obtain ⟨A, hA⟩ : ∃ A, L[j]? = some A := ⟨_, List.getElem?_eq_getElem hlt⟩
      obtain ⟨b, o, rfl, _, hc⟩ := CE.out j A hA
      have c2 := hc 2 (.string A.s) rfl
      have g0 : (0 : Int) ≤ (j : Int) := by omega
      have g1 : (j : Int) < (L.length : Int) := by omega
      have w1 : wrap64 ((j : Int) + 1) = (j : Int) + 1 := by have := HL.out; unfold wrap64; omega
      have W1 := Lib.hid w1
      have MEAS := Lib.hid (show L.length - (intOf (.int .i64 ((j : Int) + 1))).toNat < L.length - (intOf (.int .i64 (j : Int))).toNat by simp [intOf]; omega)
      by_cases e : A.s.size ≤ 100
      · have e1 : ¬ (100 : Int) < (A.s.size : Int) := by omega
        have G := Lib.hid (show ∃ j' : Nat, j' ≤ L.length ∧ Value.int .i64 ((j : Int) + 1) = .int .i64 (j' : Int) ∧ True ∧ Hid (∀ m A, m < j' → L[m]? = some A → A.s.size ≤ 100) from ⟨j + 1, hlt, rfl, trivial, Lib.hid (fun m B hm hB => by
          by_cases e2 : m = j
          · subst e2; rw [hA] at hB; cases hB; exact e
          · exact HO.out m B (by omega) hB)⟩)
        clear hA hlt hj w1 e hc
        go_wp2
        go_roundw
        case rel => first | exact G.out | (rw [W1.out]; exact G.out)
        case measure => first | exact MEAS.out | (rw [W1.out]; exact MEAS.out)
      · have e1 : (100 : Int) < (A.s.size : Int) := by omega
        have E := Lib.hid (show fewB L n = false from by unfold fewB; rw [decide_eq_false (fun h : ∀ A ∈ L, A.s.size ≤ 100 => e (h A (List.mem_of_getElem? hA)))]; rfl)
        clear hA hlt hj w1 e hc
        go_wp2
        go_ret
        exact ⟨by rw [E.out]; rfl, rfl⟩
    · have g1 : ¬ (j : Int) < (L.length : Int) := by omega
      have E := Lib.hid (show fewB L n = decide ((L.length : Int) ≤ n) from by
        unfold fewB
        rw [decide_eq_true (fun A hA => by
          obtain ⟨m, hm⟩ := List.getElem?_of_mem hA
          exact HO.out m A (by have := (List.getElem?_eq_some_iff.1 hm).1; omega) hm : ∀ A ∈ L, A.s.size ≤ 100)]; rfl)
      clear hlt hj HO
      go_wp2
      go_ret
      exact ⟨by rw [E.out]; rfl, rfl⟩
set_option maxHeartbeats 1000000 in
theorem count_any {a : Option Addr} {c : Nat} {L : List Pk} (ha : SrcAt w (.slice a L.length c) L.length (pkCells L)) (q1 : Int) (q2 : ByteArray) (hL : L.length ≤ 1000) :
    Calls Try.prog 19 #[.slice a L.length c, .agg #[.int .i64 q1, .string q2]] w fun e w' => e = .returned (.int .i64 (cnt L (q1, q2))) ∧ Below w.heap.size w w' := by
  have CE := Lib.hid (fun (wr : World) (hw : Below w.heap.size w wr) j (q : Pk) (hq : L[j]? = some q) => show ∃ b o, a = some ⟨b, o, none⟩ ∧ wr.cell? ⟨b, o + j * 2, none⟩ = some (.int .i64 q.1) ∧ wr.cell? ⟨b, o + j * 2 + 1, none⟩ = some (.string q.2) from by
    obtain ⟨b, o, e, h1, h2⟩ := src_pk ha hq
    have hlt : b < w.heap.size := by
      rcases Nat.lt_or_ge b w.heap.size with h' | h'
      · exact h'
      · simp [World.cell?, Array.getElem?_eq_none h'] at h1
    exact ⟨b, o, e, (hw.cell (p := ⟨b, o + j * 2, none⟩) hlt).trans h1, (hw.cell (p := ⟨b, o + j * 2 + 1, none⟩) hlt).trans h2⟩)
  have B0 : Below w.heap.size w (w.alloc (.cells #[.int .i64 q1, .string q2] 30)) := (Below.refl _ w).alloc (Nat.le_refl _) _
  have HX := Lib.hid (show (w.alloc (.cells #[.int .i64 q1, .string q2] 30)).heap[w.heap.size]? = some (.cells #[.int .i64 q1, .string q2] 30 (0, 0)) from heap_alloc_new w _)
  have HB0 := Lib.hid B0
  clear ha B0
  go_enter Try.func19, Try.ntmps19
  go_wp2_with fail
  go_loopw [6, 5] (fun i n wr => ∃ j : Nat, j ≤ L.length ∧ i = .int .i64 (j : Int) ∧ n = .int .i64 (cnt (L.take j) (q1, q2)) ∧ Hid (Below w.heap.size w wr ∧ wr.heap[w.heap.size]? = some (.cells #[.int .i64 q1, .string q2] 30 (0, 0)))) (fun i _ _ => L.length - (intOf i).toNat)
  case atStart => exact ⟨0, Nat.zero_le _, rfl, by simp [cnt_nil], Lib.hid ⟨HB0.out, HX.out⟩⟩
  case round =>
    obtain ⟨j, hj, rfl, rfl, HW⟩ := hrel
    have hcl : cnt (L.take j) (q1, q2) ≤ j := Nat.le_trans List.countP_le_length (by rw [List.length_take]; omega)
    by_cases hlt : j < L.length
    · obtain ⟨x1, x2, hx⟩ : ∃ x1 x2, L[j]? = some (x1, x2) := ⟨L[j].1, L[j].2, List.getElem?_eq_getElem hlt⟩
      obtain ⟨ba, oa, rfl, a1, a2⟩ := CE.out _ HW.out.1 j _ hx
      have y1 : wr.cell? ⟨w.heap.size, 0, none⟩ = some (.int .i64 q1) := by rw [Lib.cell_of_heap HW.out.2]; rfl
      have y2 : wr.cell? ⟨w.heap.size, 1, none⟩ = some (.string q2) := by rw [Lib.cell_of_heap HW.out.2]; rfl
      have g0 : (0 : Int) ≤ (j : Int) := by omega
      have g1 : (j : Int) < (L.length : Int) := by omega
      have w1 : wrap64 ((j : Int) + 1) = (j : Int) + 1 := by unfold wrap64; omega
      have W1 := Lib.hid w1
      have MEAS := Lib.hid (show L.length - (intOf (.int .i64 ((j : Int) + 1))).toNat < L.length - (intOf (.int .i64 (j : Int))).toNat by simp [intOf]; omega)
      have HD := Lib.hid (show Below w.heap.size w wr.drew ∧ wr.drew.heap[w.heap.size]? = some (.cells #[.int .i64 q1, .string q2] 30 (0, 0)) from ⟨HW.out.1.drew, HW.out.2⟩)
      have ts : L.take (j + 1) = L.take j ++ [(x1, x2)] := by
        have hxx : L[j] = (x1, x2) := (List.getElem?_eq_some_iff.1 hx).2
        rw [List.take_succ_eq_append_getElem hlt, hxx]
      have q0 := fun W => pk_eql x1 q1 x2 q2 W
      generalize hk : cnt (L.take j) (q1, q2) = k at *
      by_cases e : ((x1, x2) : Pk) = (q1, q2)
      · rw [decide_eq_true e] at q0
        have w2 : wrap64 ((k : Int) + 1) = (k : Int) + 1 := by unfold wrap64; omega
        have W2 := Lib.hid w2
        have G := Lib.hid (show ∀ wz, (Below w.heap.size w wz ∧ wz.heap[w.heap.size]? = some (.cells #[.int .i64 q1, .string q2] 30 (0, 0))) → ∃ j' : Nat, j' ≤ L.length ∧ Value.int .i64 ((j : Int) + 1) = .int .i64 (j' : Int) ∧ Value.int .i64 ((k : Int) + 1) = .int .i64 (cnt (L.take j') (q1, q2)) ∧ Hid (Below w.heap.size w wz ∧ wz.heap[w.heap.size]? = some (.cells #[.int .i64 q1, .string q2] 30 (0, 0))) from fun wz hz => ⟨j + 1, hlt, rfl, by rw [ts, cnt_app, hk, e, cnt_one]; simp, Lib.hid hz⟩)
        clear hx hlt hj w1 w2 e ts hk hcl
        go_wp2_with fail
        go_region
        go_wp2
        go_roundw
        case rel => first | exact G.out _ HD.out | (rw [W1.out, W2.out]; exact G.out _ HD.out) | (rw [W1.out]; exact G.out _ HD.out) | (rw [W2.out]; exact G.out _ HD.out)
        case measure => first | exact MEAS.out | (rw [W1.out]; exact MEAS.out)
      · rw [decide_eq_false e] at q0
        have G := Lib.hid (show ∀ wz, (Below w.heap.size w wz ∧ wz.heap[w.heap.size]? = some (.cells #[.int .i64 q1, .string q2] 30 (0, 0))) → ∃ j' : Nat, j' ≤ L.length ∧ Value.int .i64 ((j : Int) + 1) = .int .i64 (j' : Int) ∧ Value.int .i64 (k : Int) = .int .i64 (cnt (L.take j') (q1, q2)) ∧ Hid (Below w.heap.size w wz ∧ wz.heap[w.heap.size]? = some (.cells #[.int .i64 q1, .string q2] 30 (0, 0))) from fun wz hz => ⟨j + 1, hlt, rfl, by rw [ts, cnt_app, hk, cnt_other e]; simp, Lib.hid hz⟩)
        clear hx hlt hj w1 e ts hk hcl
        go_wp2_with fail
        go_region
        go_wp2
        go_roundw
        case rel => first | exact G.out _ HD.out | (rw [W1.out]; exact G.out _ HD.out)
        case measure => first | exact MEAS.out | (rw [W1.out]; exact MEAS.out)
    · have g1 : ¬ (j : Int) < (L.length : Int) := by omega
      have E := Lib.hid (show cnt (L.take j) (q1, q2) = cnt L (q1, q2) by rw [List.take_of_length_le (by omega)])
      clear hlt hj hcl
      go_wp2
      go_ret
      exact ⟨by rw [E.out]; rfl, HW.out.1⟩
end
end Go.Proofs.Ytgdcocfekjlhfaa
