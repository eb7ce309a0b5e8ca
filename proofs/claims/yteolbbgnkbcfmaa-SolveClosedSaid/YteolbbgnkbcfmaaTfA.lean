/- What a type argument's reading gives: a tree that lies in memory. -/
import Derived.Test.YteolbbgnkbcfmaaRows
import Derived.Test.YteolbbgnkbcfmaaTyN
import Derived.ProofKit
import Derived.OpenShut
import Derived.Carry
import Derived.Deep.Strs
import Derived.Deep.Fields
namespace Go.Proofs.Yteolbbgnkbcfmaa
open Go Go.ChangeShapes Go.WideShapes Go.ChangeAt Go.RowKit
open Tp (T)

theorem ownK : ownKnob Try.prog.godebug = none := by kernel_rfl
theorem laidOut : laidOutB Try.prog = true := by kernel_rfl
theorem cells_ty : Try.prog.cellsOf 26 = 3 := by kernel_rfl
theorem cells_int : Try.prog.cellsOf 3 = 1 := by kernel_rfl
theorem cells_sl : Try.prog.cellsOf 24 = 1 := by kernel_rfl

variable {H : Type} {enc : TypeId × Value → H} {W : World} {sp : Nat → Bool} {held : Bool}
theorem spot_none {a : Addr} {v : Value} (h : W.cell? a = some v) : a.spot = none := by
  unfold World.cell? at h
  split at h
  · split at h
    · cases h
    · rename_i hs; cases e : a.spot with
      | none => rfl
      | some x => rw [e] at hs; simp at hs
  · cases h
theorem cell_lt' {b o i : Nat} {v : Value} (h : W.cell? ((⟨b, o, none⟩ : Addr).add i) = some v) : b < W.heap.size := by
  rw [add_flat] at h; exact cell_lt h
theorem rows_of {P : Nat → T → Prop} : ∀ (len : Nat), (∀ i, i < len → ∃ t, P i t) → ∃ ts : List T, ts.length = len ∧ ∀ i (h : i < ts.length), P i ts[i]
  | 0, _ => ⟨[], rfl, fun i h => by simp at h⟩
  | n + 1, h => by
    obtain ⟨ts, h1, h2⟩ := rows_of n fun i hi => h i (by omega)
    obtain ⟨t, ht⟩ := h n (by omega)
    refine ⟨ts ++ [t], by simp [h1], fun i hi => ?_⟩
    by_cases e : i < ts.length
    · rw [List.getElem_append_left e]; exact h2 i e
    · have : i = n := by simp at hi; omega
      subst this
      rw [List.getElem_append_right (by omega)]
      simpa [h1] using ht
set_option maxRecDepth 100000 in
theorem trod_ty : ∀ (fuel : Nat) (cs : List Value) (x : DataW H × List MemPlace), DataW.trod enc Try.prog W 0 sp held fuel 26 cs = some x →
    ∃ (t : T) (a : Option Addr) (cap : Nat), cs = [.int .i64 t.kind, .int .i64 t.num, .slice a t.kids.length cap] ∧ TyAt (LT W.heap.size) W t a cap := by
  intro fuel
  induction fuel using Nat.strongRecOn with
  | ind fuel ih =>
    intro cs x h
    obtain ⟨xs, n, rfl, -, hl, hlen, hf⟩ := DataW.trod_struct Try.underlying26 h
    rw [cells_ty] at hl
    match cs, hl, xs, hlen with
    | [c0, c1, c2], _, [y0, y1, y2], _ =>
      have h0 := hf 0 _ rfl
      have h1 := hf 1 _ rfl
      have h2 := hf 2 _ rfl
      simp only [List.getElem?_cons_zero, List.getElem?_cons_succ] at h0 h1 h2
      obtain ⟨k, e0, -, w0⟩ := DataW.trod_int Try.underlying3 h0
      obtain ⟨m, e1, -, w1⟩ := DataW.trod_int Try.underlying3 h1
      injection e0 with e0; injection e1 with e1
      subst e0 e1
      rcases DataW.trod_slice Try.underlying24 h2 with ⟨e2, -⟩ | ⟨a, len, cap, elems, rest, n', hn', e2, -, hb, hlc, hcm, hel, hea, -, -⟩
      · injection e2 with e2; subst e2
        exact ⟨.mk k m [], none, 0, rfl, bounds_i64 w0, bounds_i64 w1, by simp [T.kids, Tp.T.kids], by unfold maxLen; omega, by simp [Tp.T.kids, KidsAt]⟩
      · injection e2 with e2; subst e2
        -- each of the kids, by the hypothesis
        have each : ∀ i, i < len → ∃ (t : T) (a' : Option Addr) (cap' : Nat), W.cell? (a.add (i * 3)) = some (.int .i64 t.kind) ∧ W.cell? ((a.add (i * 3)).add 1) = some (.int .i64 t.num) ∧ W.cell? ((a.add (i * 3)).add 2) = some (.slice a' t.kids.length cap') ∧ TyAt (LT W.heap.size) W t a' cap' := by
          intro i hi
          have hx := hea i hi
          rw [cells_ty, List.getElem?_eq_getElem (by omega)] at hx
          cases hc : W.cells? 0 (a.add (i * 3)) 3 with
          | none => rw [hc] at hx; cases hx
          | some cs' =>
            rw [hc] at hx
            obtain ⟨t, a', cap', rfl, ht⟩ := ih n' (by omega) cs' _ hx
            obtain ⟨_, _, hcell⟩ := World.cells?_some hc
            refine ⟨t, a', cap', ?_, hcell 1 (by omega), hcell 2 (by omega), ht⟩
            have := hcell 0 (by omega)
            have e : (a.add (i * 3)).add 0 = a.add (i * 3) := by unfold Addr.add; cases a.spot <;> rfl
            rw [e] at this; exact this
        obtain ⟨ts, hts, hall⟩ : ∃ ts : List T, ts.length = len ∧ ∀ i (h : i < ts.length), ∃ (a' : Option Addr) (cap' : Nat), W.cell? (a.add (i * 3)) = some (.int .i64 ts[i].kind) ∧ W.cell? ((a.add (i * 3)).add 1) = some (.int .i64 ts[i].num) ∧ W.cell? ((a.add (i * 3)).add 2) = some (.slice a' ts[i].kids.length cap') ∧ TyAt (LT W.heap.size) W ts[i] a' cap' := by
          exact rows_of len each
        refine ⟨.mk k m ts, some a, cap, by simp [Tp.T.kind, Tp.T.num, Tp.T.kids, hts], bounds_i64 w0, bounds_i64 w1, by simp only [Tp.T.kids]; omega, hcm, ?_⟩
        simp only [Tp.T.kids]
        cases ts with
        | nil => simp [KidsAt]
        | cons t0 r =>
          obtain ⟨a0, cap0, q0, _⟩ := hall 0 (by simp)
          have e00 : a.add (0 * 3) = a := by unfold Addr.add; simp
          have hs : a.spot = none := by have := spot_none q0; rw [e00] at this; exact this
          obtain ⟨b, o, s⟩ := a
          dsimp only at hs
          subst hs
          have hlt := cell_lt' q0
          refine KidsAt.of_nodes (G := LT W.heap.size) (b := b) (by unfold LT; exact hlt) _ o (fun i hi => ?_)
          obtain ⟨a', cap', r0, r1, r2, r3⟩ := hall i hi
          rw [add_flat] at r0; rw [add_flat, add_flat] at r1 r2
          exact NodeAt.mk' r3 r0 r1 r2
set_option maxRecDepth 100000 in
/-- A TYPE ARGUMENT, OPENED. -/
theorem open_ty {b0 : Nat} {v : Value} {d : DataW H} {p : List MemPlace} (hv : Value.okWide Try.prog W .any b0 26 v) (h : DataW.Trod enc Try.prog W 0 sp held 26 v d p) : ∃ (t : T) (a : Option Addr) (cap : Nat), v = tv t a cap ∧ TyAt (LT W.heap.size) W t a cap := by
  obtain ⟨cs, rfl, hsz⟩ := okWide_struct Try.underlying26 hv
  obtain ⟨fuel, hf⟩ := h
  obtain ⟨t, a, cap, e, ht⟩ := trod_ty fuel _ _ hf
  refine ⟨t, a, cap, ?_, ht⟩
  unfold tv
  congr 1
  exact Array.toList_inj.1 (by simpa [Value.cells] using e)
end Go.Proofs.Yteolbbgnkbcfmaa
