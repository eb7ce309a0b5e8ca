/- A map from numbers to nodes. -/
import Derived.Test.YtaaapdfdedknfaaStQ
namespace Go.Proofs.Ytaaapdfdedknfaa
open Go Go.RowKit
abbrev IMap := Int → Option Nat
def imE (e : Nat) : Value := .int .i64 (e : Int)
/-- Block b holds a number for each of some numbers. -/
def IMAt (W : World) (b n : Nat) (M : IMap) : Prop := ∃ D : DataW Value, W.ownsMap Try.prog 3 whole b n D ∧
  (∀ k, I64 k → ∀ kl, keyOf Try.prog 3 (.int .i64 k) = some kl → Maps.has D kl = (M k).isSome ∧ ∀ e, M k = some e → ∀ z, D.atKey kl z = .held (imE e)) ∧ Maps.size D = n
theorem IMAt.same {W W' : World} {b n : Nat} {M : IMap} (h : IMAt W b n M) (hs : W'.heap[b]? = W.heap[b]?) : IMAt W' b n M := by
  obtain ⟨D, ⟨es, cl, h1, h2⟩, h3⟩ := h
  exact ⟨D, ⟨es, cl, hs.trans h1, h2⟩, h3⟩
theorem IMAt.lt {W : World} {b n : Nat} {M : IMap} (h : IMAt W b n M) : b < W.heap.size := by
  obtain ⟨D, h1, _⟩ := h
  exact h1.lt
theorem IMAt.block {W : World} {b n : Nat} {M : IMap} (h : IMAt W b n M) : ∃ o, W.heap[b]? = some o ∧ ∀ A s, o ≠ .cells A s := by
  obtain ⟨D, ⟨es, cl, h1, _⟩, _⟩ := h
  exact ⟨_, h1, fun A s h => by cases h⟩
theorem im_new (w : World) : IMAt (w.alloc (.map #[] 0)) w.heap.size 0 (fun _ => none) :=
  ⟨.map [], World.ownsMap_made w _ _ _, fun _ _ _ _ => ⟨rfl, fun _ h => by cases h⟩, rfl⟩
theorem im_zero (w : World) : (zeroValue 3).run Try.prog w = .ok (.int .i64 0) w := by kernel_rfl
/-- What a look at a number yields. -/
def imV (M : IMap) (k : Int) : Value := match M k with | some e => imE e | none => .int .i64 0
set_option maxRecDepth 100000 in
theorem im_look {W : World} {b n : Nat} {M : IMap} (h : IMAt W b n M) {k : Int} (hk : I64 k) (c : Bool) :
    (Instr.lookup 53 (.map (some b)) (.int .i64 k) c).run Try.prog W = .ok (if c then .tuple #[imV M k, .bool (M k).isSome] else imV M k) W := by
  obtain ⟨D, ⟨es, cl, hb, F, hz, hD⟩, h2, _⟩ := h
  obtain ⟨g1, g2⟩ := h2 k hk _ (pm_key hk)
  rcases Maps.fit_look c (Maps.int_keyed Try.underlying3) (t := 53) (e := 3) Try.underlying53 (im_zero W) hb F (pm_key hk) with ⟨hrun, _, hat⟩ | ⟨e0, y, _, _, hrun, hRv, hat, _⟩
  · have hM : M k = none := by
      cases hM : M k with
      | none => rfl
      | some e =>
        have h3 := g2 e hM (.held (.bool true))
        have h4 := g2 e hM (.held (.bool false))
        rw [hD, hat] at h3 h4
        rw [← h3] at h4
        injection h4 with h4
        injection h4 with h4
        cases h4
    rw [hrun]
    unfold imV
    rw [hM]; rfl
  · have hy : y = (.held e0.val, []) := by unfold whole at hRv; injection hRv with hRv; exact hRv.symm
    subst hy
    cases hM : M k with
    | none =>
      have : Maps.has D (.int .i64 k) = true := by rw [hD]; exact Maps.has_true_of_atKey hat
      rw [g1, hM] at this; cases this
    | some e =>
      have h3 := g2 e hM (.held (.bool true))
      rw [hD, hat] at h3
      injection h3 with h3
      rw [hrun]
      unfold imV
      rw [hM]
      dsimp only
      rw [← h3]; rfl
/-- One number more, or anew. -/
def imPut (M : IMap) (k : Int) (e : Nat) : IMap := fun i => if i = k then some e else M i
set_option maxRecDepth 100000 in
theorem im_put {W : World} {b n : Nat} {M : IMap} (h : IMAt W b n M) {k : Int} (hk : I64 k) (e : Nat) (hn : n ≤ 4000000) (hno : M k = none) :
    ∃ W', (Instr.mapUpdate 53 (.map (some b)) (.int .i64 k) (imE e)).run Try.prog W = .ok () W' ∧ IMAt W' b (n + 1) (imPut M k e) ∧ W.grownBy W' (some b) := by
  obtain ⟨D, h1, h2, h3⟩ := h
  obtain ⟨w', r1, r2, r3⟩ := h1.update (Maps.int_keyed Try.underlying3) (t := 53) (e := 3) Try.underlying53 (by unfold maxLen; omega) (pm_key hk) (val := imE e) (d := .held (imE e)) (ps := []) rfl
  refine ⟨w', r1, ⟨_, r2, fun i hi kl hkl => ?_, by rw [Maps.size_put (h1.tidy (Maps.int_keyed Try.underlying3)), (h2 k hk _ (pm_key hk)).1, hno, h3]; rfl⟩, r3⟩
  rw [pm_key hi] at hkl; injection hkl with hkl; subst hkl
  by_cases he : i = k
  · subst he
    refine ⟨?_, fun q hq z => ?_⟩
    · rw [Maps.has_put_same h1.isMap (show WideAt.IsKeyLit (.int .i64 i) from trivial)]; simp [imPut]
    · rw [Maps.atKey_put_same h1.isMap (show WideAt.IsKeyLit (.int .i64 i) from trivial)]
      simp only [imPut, if_true, Option.some.injEq] at hq
      rw [hq]
  · have hne : (Lit.int .i64 i) ≠ .int .i64 k := fun x => he (by injection x)
    obtain ⟨g1, g2⟩ := h2 i hi _ (pm_key hi)
    have e' : imPut M k e i = M i := if_neg he
    rw [e']
    refine ⟨?_, fun q hq z => ?_⟩
    · rw [Maps.has_put_other hne]; exact g1
    · rw [Maps.atKey_put_other hne]; exact g2 q hq z
theorem im_len {W : World} {b n : Nat} {M : IMap} (h : IMAt W b n M) (ty : TypeId) : (Builtin.len_ #[53] ty #[.map (some b)]).run Try.prog W = .ok (.int .i64 (n : Int)) W := by
  obtain ⟨D, h1, _, h3⟩ := h
  rw [h1.len (e := 3) Try.underlying53, h3]
end Go.Proofs.Ytaaapdfdedknfaa
