/- Walks: typ.right, typ.alike; the page's Kids. -/
import Derived.Test.YtaaapdfdedknfaaTpM
import Derived.WalkSpells
import Derived.WalkLawsBesides
import Derived.Lib.Hide
namespace Go.Proofs.Ytaaapdfdedknfaa
open Go Go.RowKit
open Tp (T)

theorem ret_boolT {a b : Bool} (h : a = b) : Ending.returned (.bool a) = .returned (.bool b) := by rw [h]
theorem ret_intT {k : IntKind} {a b : Int} (h : a = b) : Ending.returned (.int k a) = .returned (.int k b) := by rw [h]

set_option maxHeartbeats 1000000 in
theorem kids_any (k : Int) (w : World) :
    Calls Try.prog 84 #[.int .i64 k] w fun e w' => e = .returned (.int .i64 (Tp.arity k)) ∧ w = w' := by
  go_enter Try.func84, Try.ntmps84
  go_wp2
  all_goals go_ret
  all_goals refine ⟨ret_intT ?_, rfl⟩
  all_goals (simp only [beq_iff_eq, beq_eq_false_iff_ne] at *; unfold Tp.arity; (repeat' split) <;> omega)

theorem right_iff (k n : Int) (m : Nat) : Tp.nodeRight k n m = true ↔ ((k = 1 ∨ k = 2 ∨ k = 3 ∨ k = 4 ∨ k = 5) ∧ n = 0 ∧ m = 0) ∨ (k = 6 ∧ 0 ≤ n ∧ n ≤ 1048576 ∧ m = 0) ∨ ((k = 7 ∨ k = 9) ∧ n = 0 ∧ m = 2) ∨ (k = 8 ∧ n = 0 ∧ m = 1) := by
  simp only [Tp.nodeRight, Tp.arity, Bool.and_eq_true, Bool.or_eq_true, decide_eq_true_eq]
  (repeat' split) <;> simp only [decide_eq_true_eq] <;> omega

set_option maxHeartbeats 1000000 in
theorem right_any (t : T) (a : Option Addr) (cap : Nat) (w : World) (hl : t.kids.length ≤ maxLen) :
    Calls Try.prog 126 #[tv t a cap] w fun e w' => e = .returned (.bool (Tp.nodeRight t.kind t.num t.kids.length)) ∧ Below w.heap.size w w' := by
  unfold tv
  obtain ⟨k, hk⟩ : ∃ k, t.kind = k := ⟨_, rfl⟩
  obtain ⟨n, hn⟩ : ∃ n, t.num = n := ⟨_, rfl⟩
  obtain ⟨m, hm⟩ : ∃ m, t.kids.length = m := ⟨_, rfl⟩
  rw [hk, hn, hm]; rw [hm] at hl; clear hk hn hm
  unfold maxLen at hl; have hl0 := hl; clear hl0
  go_enter Try.func126, Try.ntmps126
  go_wp2
  all_goals go_ret
  all_goals refine ⟨ret_boolT ?_, (Below.refl _ _).alloc (Nat.le_refl _) _⟩
  all_goals (rw [Bool.eq_iff_iff, right_iff]; simp only [beq_iff_eq, beq_eq_false_iff_ne, reduceCtorEq, false_iff] at *; omega)

set_option maxHeartbeats 1000000 in
theorem alike_any (t u : T) (a : Option Addr) (cap : Nat) (a' : Option Addr) (cap' : Nat) (w : World) (hl : t.kids.length ≤ maxLen) (hl' : u.kids.length ≤ maxLen) :
    Calls Try.prog 141 #[tv t a cap, tv u a' cap'] w fun e w' => e = .returned (.bool (decide (t.kind = u.kind) && decide (t.num = u.num) && decide (t.kids.length = u.kids.length))) ∧ Below w.heap.size w w' := by
  unfold tv
  obtain ⟨k, hk⟩ : ∃ k, t.kind = k := ⟨_, rfl⟩
  obtain ⟨n, hn⟩ : ∃ n, t.num = n := ⟨_, rfl⟩
  obtain ⟨m, hm⟩ : ∃ m, t.kids.length = m := ⟨_, rfl⟩
  obtain ⟨k', hk'⟩ : ∃ k, u.kind = k := ⟨_, rfl⟩
  obtain ⟨n', hn'⟩ : ∃ n, u.num = n := ⟨_, rfl⟩
  obtain ⟨m', hm'⟩ : ∃ m, u.kids.length = m := ⟨_, rfl⟩
  rw [hk, hn, hm, hk', hn', hm']; rw [hm] at hl; rw [hm'] at hl'; clear hk hn hm hk' hn' hm'
  unfold maxLen at hl hl'; have hl0 := And.intro hl hl'; clear hl0
  go_enter Try.func141, Try.ntmps141
  go_wp2
  all_goals go_ret
  all_goals refine ⟨ret_boolT ?_, ((Below.refl _ _).alloc (Nat.le_refl _) _).alloc (by simp) _⟩
  all_goals (rw [Bool.eq_iff_iff]; simp only [Bool.and_eq_true, beq_iff_eq, decide_eq_true_eq, reduceCtorEq, false_iff] at *; omega)
end Go.Proofs.Ytaaapdfdedknfaa
