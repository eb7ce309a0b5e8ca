/- What the reading of a row of types that is handed in gives: trees that lie in memory, one behind the other. What the reading of a row of binds that is handed in gives. -/
import Derived.Test.YtncdbbjkafgphaaTfA
import Derived.Test.YtncdbbjkafgphaaScA
namespace Go.Proofs.Ytncdbbjkafgphaa
open Go Go.ChangeShapes Go.WideShapes Go.ChangeAt Go.RowKit
open Tp (T)
variable {H : Type} {enc : TypeId × Value → H} {W : World} {sp : Nat → Bool} {held : Bool}
/-- A row of types that is handed in. -/
def TypesAt (w : World) (l : List T) (a : Option Addr) (n cap : Nat) : Prop := n = l.length ∧ n ≤ cap ∧ cap ≤ maxLen ∧ KidsAt (LT w.heap.size) w l a
set_option maxRecDepth 100000 in
theorem trod_types (fuel : Nat) (cs : List Value) (x : DataW H × List MemPlace) (h : DataW.trod enc Try.prog W 0 sp held fuel 22 cs = some x) :
    ∃ (l : List T) (a : Option Addr) (n cap : Nat), cs = [.slice a n cap] ∧ TypesAt W l a n cap := by
  rcases DataW.trod_slice Try.underlying22 h with ⟨e2, -⟩ | ⟨a, len, cap, elems, rest, n', hn', e2, -, hb, hlc, hcm, hel, hea, -, -⟩
  · subst e2
    exact ⟨[], none, 0, 0, rfl, rfl, Nat.le_refl _, Nat.zero_le _, by simp [KidsAt]⟩
  · subst e2
    have each : ∀ i, i < len → ∃ (t : T) (a' : Option Addr) (cap' : Nat), W.cell? (a.add (i * 3)) = some (.int .i64 t.kind) ∧ W.cell? ((a.add (i * 3)).add 1) = some (.int .i64 t.num) ∧ W.cell? ((a.add (i * 3)).add 2) = some (.slice a' t.kids.length cap') ∧ TyAt (LT W.heap.size) W t a' cap' := by
      intro i hi
      have hx := hea i hi
      rw [cells_ty, List.getElem?_eq_getElem (by omega)] at hx
      cases hc : W.cells? 0 (a.add (i * 3)) 3 with
      | none => rw [hc] at hx; cases hx
      | some cs' =>
        rw [hc] at hx
        obtain ⟨t, a', cap', rfl, ht⟩ := trod_ty n' cs' _ hx
        obtain ⟨_, _, hcell⟩ := World.cells?_some hc
        refine ⟨t, a', cap', ?_, hcell 1 (by omega), hcell 2 (by omega), ht⟩
        have := hcell 0 (by omega)
        have e : (a.add (i * 3)).add 0 = a.add (i * 3) := by unfold Addr.add; cases a.spot <;> rfl
        rw [e] at this; exact this
    obtain ⟨ts, hts, hall⟩ : ∃ ts : List T, ts.length = len ∧ ∀ i (h : i < ts.length), ∃ (a' : Option Addr) (cap' : Nat), W.cell? (a.add (i * 3)) = some (.int .i64 ts[i].kind) ∧ W.cell? ((a.add (i * 3)).add 1) = some (.int .i64 ts[i].num) ∧ W.cell? ((a.add (i * 3)).add 2) = some (.slice a' ts[i].kids.length cap') ∧ TyAt (LT W.heap.size) W ts[i] a' cap' := by
      exact rows_of len each
    refine ⟨ts, some a, len, cap, rfl, hts.symm, hlc, hcm, ?_⟩
    cases ts with
    | nil => simp [KidsAt]
    | cons t0 r =>
      obtain ⟨a0, cap0, q0, _⟩ := hall 0 (by simp)
      have e00 : a.add (0 * 3) = a := by unfold Addr.add; simp
      have hs : a.spot = none := by have := spot_none q0; rw [e00] at this; exact this
      obtain ⟨b, o, s⟩ := a
      dsimp only at hs
      subst hs
      have hlt := cell_lt' q0
      refine KidsAt.of_nodes (G := LT W.heap.size) (b := b) (by unfold LT; exact hlt) _ o (fun i hi => ?_)
      obtain ⟨a', cap', r0, r1, r2, r3⟩ := hall i hi
      rw [add_flat] at r0; rw [add_flat, add_flat] at r1 r2
      exact NodeAt.mk' r3 r0 r1 r2
set_option maxRecDepth 100000 in
/-- A ROW OF TYPES, OPENED. -/
theorem open_types {b0 : Nat} {v : Value} {d : DataW H} {p : List MemPlace} (hv : Value.okWide Try.prog W .any b0 22 v) (h : DataW.Trod enc Try.prog W 0 sp held 22 v d p) : ∃ (l : List T) (a : Option Addr) (n cap : Nat), v = .slice a n cap ∧ TypesAt W l a n cap := by
  obtain ⟨a0, n0, c0, rfl⟩ := okWide_slice Try.underlying22 hv
  obtain ⟨fuel, hf⟩ := h
  obtain ⟨l, a, n, cap, e, ht⟩ := trod_types fuel _ _ hf
  refine ⟨l, a, n, cap, ?_, ht⟩
  simpa [Value.cells] using e
end Go.Proofs.Ytncdbbjkafgphaa
namespace Go.Proofs.Ytncdbbjkafgphaa
open Go Go.ChangeShapes Go.WideShapes Go.ChangeAt Go.RowKit
open Tp (T Bd)
theorem cells_bd : Try.prog.cellsOf 44 = 4 := by kernel_rfl
variable {H : Type} {enc : TypeId × Value → H} {W : World} {sp : Nat → Bool} {held : Bool}
/-- A row of binds that is handed in. -/
def BindsIn (w : World) (L : List Bd) (a : Option Addr) (n cap : Nat) : Prop := n = L.length ∧ n ≤ cap ∧ cap ≤ maxLen ∧ BindsAt (LT w.heap.size) w L a ∧ ∀ b ∈ L, I64 b.1
theorem rows_of' {α : Type} {P : Nat → α → Prop} : ∀ (len : Nat), (∀ i, i < len → ∃ t, P i t) → ∃ ts : List α, ts.length = len ∧ ∀ i (h : i < ts.length), P i ts[i]
  | 0, _ => ⟨[], rfl, fun i h => by simp at h⟩
  | n + 1, h => by
    obtain ⟨ts, h1, h2⟩ := rows_of' n fun i hi => h i (by omega)
    obtain ⟨t, ht⟩ := h n (by omega)
    refine ⟨ts ++ [t], by simp [h1], fun i hi => ?_⟩
    by_cases e : i < ts.length
    · rw [List.getElem_append_left e]; exact h2 i e
    · have : i = n := by simp at hi; omega
      subst this
      rw [List.getElem_append_right (by omega)]
      simpa [h1] using ht
set_option maxRecDepth 100000 in
theorem trod_bind (fuel : Nat) (cs : List Value) (x : DataW H × List MemPlace) (h : DataW.trod enc Try.prog W 0 sp held fuel 44 cs = some x) :
    ∃ (n : Int) (t : T) (a : Option Addr) (cap : Nat), cs = [.int .i64 n, .int .i64 t.kind, .int .i64 t.num, .slice a t.kids.length cap] ∧ I64 n ∧ TyAt (LT W.heap.size) W t a cap := by
  obtain ⟨xs, n, rfl, -, hl, hlen, hf⟩ := DataW.trod_struct Try.underlying44 h
  rw [cells_bd] at hl
  match cs, hl, xs, hlen with
  | [c0, c1, c2, c3], _, [y0, y1], _ =>
    have h0 := hf 0 _ rfl
    have h1 := hf 1 _ rfl
    simp only [List.getElem?_cons_zero, List.getElem?_cons_succ] at h0 h1
    obtain ⟨k, e0, -, w0⟩ := DataW.trod_int Try.underlying3 h0
    injection e0 with e0
    subst e0
    obtain ⟨t, a, cap, e1, ht⟩ := trod_ty _ _ _ h1
    injection e1 with e1 e2
    injection e2 with e2 e3
    injection e3 with e3 _
    subst e1 e2 e3
    exact ⟨k, t, a, cap, rfl, bounds_i64 w0, ht⟩
set_option maxRecDepth 100000 in
theorem trod_binds (fuel : Nat) (cs : List Value) (x : DataW H × List MemPlace) (h : DataW.trod enc Try.prog W 0 sp held fuel 25 cs = some x) :
    ∃ (L : List Bd) (a : Option Addr) (n cap : Nat), cs = [.slice a n cap] ∧ BindsIn W L a n cap := by
  rcases DataW.trod_slice Try.underlying25 h with ⟨e2, -⟩ | ⟨a, len, cap, elems, rest, n', hn', e2, -, hb, hlc, hcm, hel, hea, -, -⟩
  · subst e2
    exact ⟨[], none, 0, 0, rfl, rfl, Nat.le_refl _, Nat.zero_le _, (fun i hi => by simp at hi), fun b hb => by cases hb⟩
  · subst e2
    have each : ∀ i, i < len → ∃ p : Bd, ∃ (a' : Option Addr) (cap' : Nat), W.cell? (a.add (i * 4)) = some (.int .i64 p.1) ∧ W.cell? ((a.add (i * 4)).add 1) = some (.int .i64 p.2.kind) ∧ W.cell? ((a.add (i * 4)).add 2) = some (.int .i64 p.2.num) ∧ W.cell? ((a.add (i * 4)).add 3) = some (.slice a' p.2.kids.length cap') ∧ I64 p.1 ∧ TyAt (LT W.heap.size) W p.2 a' cap' := by
      intro i hi
      have hx := hea i hi
      rw [cells_bd, List.getElem?_eq_getElem (by omega)] at hx
      cases hc : W.cells? 0 (a.add (i * 4)) 4 with
      | none => rw [hc] at hx; cases hx
      | some cs' =>
        rw [hc] at hx
        obtain ⟨k, t, a', cap', rfl, hk, ht⟩ := trod_bind n' cs' _ hx
        obtain ⟨_, _, hcell⟩ := World.cells?_some hc
        refine ⟨(k, t), a', cap', ?_, hcell 1 (by omega), hcell 2 (by omega), hcell 3 (by omega), hk, ht⟩
        have := hcell 0 (by omega)
        have e : (a.add (i * 4)).add 0 = a.add (i * 4) := by unfold Addr.add; cases a.spot <;> rfl
        rw [e] at this; exact this
    obtain ⟨ts, hts, hall⟩ := rows_of' len each
    refine ⟨ts, some a, len, cap, rfl, hts.symm, hlc, hcm, fun i hi => ?_, fun p hp => ?_⟩
    · obtain ⟨a', cap', r0, r1, r2, r3, r4, r5⟩ := hall i hi
      obtain ⟨_, _, q0, _⟩ := hall 0 (by omega)
      have e00 : a.add (0 * 4) = a := by unfold Addr.add; simp
      have hs : a.spot = none := by have := spot_none q0; rw [e00] at this; exact this
      obtain ⟨b, o, s⟩ := a
      dsimp only at hs
      subst hs
      rw [add_flat] at r0; rw [add_flat, add_flat] at r1 r2 r3
      exact ⟨b, o, a', cap', rfl, (by have := cell_lt r0; exact this), r5, r0, r1, r2, r3⟩
    · obtain ⟨i, hi, rfl⟩ := List.getElem_of_mem hp
      exact (hall i hi).choose_spec.choose_spec.2.2.2.2.1
set_option maxRecDepth 100000 in
/-- A ROW OF BINDS, OPENED. -/
theorem open_binds {b0 : Nat} {v : Value} {d : DataW H} {p : List MemPlace} (hv : Value.okWide Try.prog W .any b0 25 v) (h : DataW.Trod enc Try.prog W 0 sp held 25 v d p) : ∃ (L : List Bd) (a : Option Addr) (n cap : Nat), v = .slice a n cap ∧ BindsIn W L a n cap := by
  obtain ⟨a0, n0, c0, rfl⟩ := okWide_slice Try.underlying25 hv
  obtain ⟨fuel, hf⟩ := h
  obtain ⟨L, a, n, cap, e, ht⟩ := trod_binds fuel _ _ hf
  refine ⟨L, a, n, cap, ?_, ht⟩
  simpa [Value.cells] using e
end Go.Proofs.Ytncdbbjkafgphaa
