/- What the reading of a row of types that is handed in gives: trees that lie in memory, one behind the other. SchemeMatch: whatever the input, the law returns true, and the arguments read as they did. -/
import Derived.Test.YtgambiohchcfdaaTfA
import Derived.Test.YtgambiohchcfdaaRows
import Derived.Test.YtgambiohchcfdaaScK
import Derived.ProofKit
import Derived.Carry
namespace Go.Proofs.Ytgambiohchcfdaa
open Go Go.ChangeShapes Go.WideShapes Go.ChangeAt Go.RowKit
open Tp (T)
variable {H : Type} {enc : TypeId × Value → H} {W : World} {sp : Nat → Bool} {held : Bool}
/-- A row of types that is handed in. -/
def TypesAt (w : World) (l : List T) (a : Option Addr) (n cap : Nat) : Prop := n = l.length ∧ n ≤ cap ∧ cap ≤ maxLen ∧ KidsAt (LT w.heap.size) w l a
set_option maxRecDepth 100000 in
theorem trod_types (fuel : Nat) (cs : List Value) (x : DataW H × List MemPlace) (h : DataW.trod enc Try.prog W 0 sp held fuel 22 cs = some x) :
    ∃ (l : List T) (a : Option Addr) (n cap : Nat), cs = [.slice a n cap] ∧ TypesAt W l a n cap := by
  rcases DataW.trod_slice Try.underlying22 h with ⟨e2, -⟩ | ⟨a, len, cap, elems, rest, n', hn', e2, -, hb, hlc, hcm, hel, hea, -, -⟩
  · subst e2
    exact ⟨[], none, 0, 0, rfl, rfl, Nat.le_refl _, Nat.zero_le _, by simp [KidsAt]⟩
  · subst e2
    have each : ∀ i, i < len → ∃ (t : T) (a' : Option Addr) (cap' : Nat), W.cell? (a.add (i * 3)) = some (.int .i64 t.kind) ∧ W.cell? ((a.add (i * 3)).add 1) = some (.int .i64 t.num) ∧ W.cell? ((a.add (i * 3)).add 2) = some (.slice a' t.kids.length cap') ∧ TyAt (LT W.heap.size) W t a' cap' := by
      intro i hi
      have hx := hea i hi
      rw [cells_ty, List.getElem?_eq_getElem (by omega)] at hx
      cases hc : W.cells? 0 (a.add (i * 3)) 3 with
      | none => rw [hc] at hx; cases hx
      | some cs' =>
        rw [hc] at hx
        obtain ⟨t, a', cap', rfl, ht⟩ := trod_ty n' cs' _ hx
        obtain ⟨_, _, hcell⟩ := World.cells?_some hc
        refine ⟨t, a', cap', ?_, hcell 1 (by omega), hcell 2 (by omega), ht⟩
        have := hcell 0 (by omega)
        have e : (a.add (i * 3)).add 0 = a.add (i * 3) := by unfold Addr.add; cases a.spot <;> rfl
        rw [e] at this; exact this
    obtain ⟨ts, hts, hall⟩ : ∃ ts : List T, ts.length = len ∧ ∀ i (h : i < ts.length), ∃ (a' : Option Addr) (cap' : Nat), W.cell? (a.add (i * 3)) = some (.int .i64 ts[i].kind) ∧ W.cell? ((a.add (i * 3)).add 1) = some (.int .i64 ts[i].num) ∧ W.cell? ((a.add (i * 3)).add 2) = some (.slice a' ts[i].kids.length cap') ∧ TyAt (LT W.heap.size) W ts[i] a' cap' := by
      exact rows_of len each
    refine ⟨ts, some a, len, cap, rfl, hts.symm, hlc, hcm, ?_⟩
    cases ts with
    | nil => simp [KidsAt]
    | cons t0 r =>
      obtain ⟨a0, cap0, q0, _⟩ := hall 0 (by simp)
      have e00 : a.add (0 * 3) = a := by unfold Addr.add; simp
      have hs : a.spot = none := by have := spot_none q0; rw [e00] at this; exact this
      obtain ⟨b, o, s⟩ := a
      dsimp only at hs
      subst hs
      have hlt := cell_lt' q0
      refine KidsAt.of_nodes (G := LT W.heap.size) (b := b) (by unfold LT; exact hlt) _ o (fun i hi => ?_)
      obtain ⟨a', cap', r0, r1, r2, r3⟩ := hall i hi
      rw [add_flat] at r0; rw [add_flat, add_flat] at r1 r2
      exact NodeAt.mk' r3 r0 r1 r2
set_option maxRecDepth 100000 in
/-- A ROW OF TYPES, OPENED. -/
theorem open_types {b0 : Nat} {v : Value} {d : DataW H} {p : List MemPlace} (hv : Value.okWide Try.prog W .any b0 22 v) (h : DataW.Trod enc Try.prog W 0 sp held 22 v d p) : ∃ (l : List T) (a : Option Addr) (n cap : Nat), v = .slice a n cap ∧ TypesAt W l a n cap := by
  obtain ⟨a0, n0, c0, rfl⟩ := okWide_slice Try.underlying22 hv
  obtain ⟨fuel, hf⟩ := h
  obtain ⟨l, a, n, cap, e, ht⟩ := trod_types fuel _ _ hf
  refine ⟨l, a, n, cap, ?_, ht⟩
  simpa [Value.cells] using e
end Go.Proofs.Ytgambiohchcfdaa
namespace Go.Proofs.Ytgambiohchcfdaa.schemeMatch
open Go Go.ChangeShapes Go.WideShapes Go.ChangeAt Go.RowKit

set_option maxRecDepth 100000 in
theorem lifted (os : Os) (started : os.Started) (H : Type) (enc : TypeId × Value → H) :
    ReturnsInHanded {} Try.checked os 4 .any (Rows.schemeMatchSpec.pre6 enc Try.prog Try.f4 Rows.schemeMatchRow.domain false) (Rows.schemeMatchSpec.post enc Try.prog Try.f4 false true false false) := by
  refine returnsInHanded_of_change (C := Try.checked) ownK started (by kernel_rfl) Try.func4
    (ChangeSpec.witness6 (enc := enc) (C := Try.checked) false ⟨#[], #[.agg #[.int .i64 0, .int .i64 0, .slice none 0 0], .agg #[.int .i64 0, .int .i64 0, .slice none 0 0], .slice none 0 0], []⟩ 8 (by kernel_rfl) (by kernel_rfl) (by kernel_rfl) (by kernel_rfl)) ?_
  intro W base args ds gs before hval0 hW hcnd _
  clear hcnd
  have hval : ∀ (j : Nat) t v, Try.f4.params[j]? = some t → args[j]? = some v → Value.okWide Try.prog W .any base t v := hval0
  have hW' := hW
  obtain ⟨p, q, hA0, hV, rfl, hfz, hnd⟩ := hW
  have hA : DataW.TrodAll enc Try.prog W 0 (fun _ => true) true Try.f4.params.toList args.toList ds p := hA0
  rw [Try.params4] at hA hval
  obtain ⟨v0, vs0, d0, ds0, p0, q0, hargs, rfl, rfl, h0, r0⟩ := trodAll_cons hA
  obtain ⟨v1, vs1, d1, ds1, p1, q1, rfl, rfl, rfl, h1, r1⟩ := trodAll_cons r0
  obtain ⟨v2, vs2, d2, ds2, p2, q2, rfl, rfl, rfl, h2, r2⟩ := trodAll_cons r1
  obtain ⟨rfl, rfl, rfl⟩ := trodAll_nil r2
  obtain rfl : args = #[v0, v1, v2] := by cases args; simp_all
  obtain ⟨rfl, rfl⟩ := trodVars_none hV
  have hk0 := h0
  obtain ⟨t0, a0, cap0, rfl, ht0⟩ := open_ty (hval 0 24 v0 rfl rfl) h0
  have hk1 := h1
  obtain ⟨t1, a1, cap1, rfl, ht1⟩ := open_ty (hval 1 24 v1 rfl rfl) h1
  have hk2 := h2
  obtain ⟨l2, a2, m2, cap2, rfl, ht2⟩ := open_types (hval 2 22 v2 rfl rfl) h2
  clear hA0 hval0
  simp only [List.append_nil] at hW'
  have hlt0 : ∀ x ∈ p0, x.block < W.heap.size := fun x hx => hW'.lt x (by simp [hx])
  have hlt1 : ∀ x ∈ p1, x.block < W.heap.size := fun x hx => hW'.lt x (by simp [hx])
  have hlt2 : ∀ x ∈ p2, x.block < W.heap.size := fun x hx => hW'.lt x (by simp [hx])
  refine (lmatch11_any t0 a0 cap0 t1 a1 cap1 l2 a2 m2 cap2 W  ht0 ht1 ht2).mono fun e W' ⟨he, hb⟩ => ?_
  subst he
  refine ⟨_, rfl, _, _, _, [], p0 ++ (p1 ++ (p2 ++ [])), [], hW', ?_, ?_, rfl, hb.frame _, fun h => by cases h⟩
  · exact trodAll_cons_mk (shut_bool Try.underlying4 _) trodAll_mk0
  · exact (trodAll_cons_mk (Below.trod laidOut (by kernel_rfl) (of_decide_eq_true (by kernel_rfl)) hk0 hb hlt0) (trodAll_cons_mk (Below.trod laidOut (by kernel_rfl) (of_decide_eq_true (by kernel_rfl)) hk1 hb hlt1) (trodAll_cons_mk (Below.trod laidOut (by kernel_rfl) (of_decide_eq_true (by kernel_rfl)) hk2 hb hlt2) trodAll_mk0)))

theorem said : Rows.SchemeMatchSaid :=
  OpenClaim.holds_of_wide 4 Try.f4 rfl rfl rfl rfl rfl rfl rfl ⟨rfl, rfl, rfl, rfl, rfl⟩ rfl rfl rfl rfl rfl (by kernel_rfl) Try.func4 (by kernel_rfl)
    (of_decide_eq_true (by kernel_rfl)) (by unfold Func.isWrapper; first | (rw [if_pos (by decide +kernel)]; kernel_rfl) | (rw [if_neg (by decide +kernel)]; exact ⟨rfl, rfl⟩))
    (fun os started H enc _ => lifted os started H enc)
#print axioms said
end Go.Proofs.Ytgambiohchcfdaa.schemeMatch
