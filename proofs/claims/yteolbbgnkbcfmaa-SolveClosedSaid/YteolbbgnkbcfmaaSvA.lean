/- A set of pairs of numbers: a map keyed by arrays of two ints. -/
import Derived.Test.YteolbbgnkbcfmaaTfA
import Derived.Test.YteolbbgnkbcfmaaStQ
import Derived.Maps.OwnIn
import Derived.Maps.OwnSet
import Derived.Maps.Views
import Derived.DeepKeys4
namespace Go.Proofs.Yteolbbgnkbcfmaa
open Go Go.RowKit
theorem ak_row : (86 : TypeId) < Try.prog.types.size := of_decide_eq_true (by kernel_rfl)
theorem ak_wide : (match Try.prog.underlying 86 with | some (.array _ _) | some (.struct _) => true | _ => false) = true := by rw [Try.underlying86]
set_option maxRecDepth 100000 in
theorem ak_law : Maps.Keyed Try.prog 86 := Maps.Keyed.of_law (deep_law_laid laidOut (m := 3) (by omega) ak_row (by kernel_rfl) ak_wide)
set_option maxRecDepth 100000 in
theorem ak_cells : Try.prog.cellsOf 86 = 2 ∧ Try.prog.cellsOf 3 = 1 := ⟨by kernel_rfl, by kernel_rfl⟩
set_option maxRecDepth 100000 in
theorem ak_type : Try.prog.keyType 86 = true := by kernel_rfl
set_option maxRecDepth 100000 in
theorem ak_size : ∃ m, Try.prog.types.size = m + 1 := ⟨_, (Nat.succ_pred_eq_of_pos (Nat.lt_of_le_of_lt (Nat.zero_le _) ak_row)).symm⟩
set_option maxRecDepth 100000 in
theorem ak_lits {a b : Int} (ha : I64 a) (hb : I64 b) (d : Nat) : Try.prog.keyLits (d + 1 + 1) 86 [.int .i64 a, .int .i64 b] = some [.int .i64 a, .int .i64 b] := by
  have h1 : (Lit.int .i64 a).wf = true := wf_of ha
  have h2 : (Lit.int .i64 b).wf = true := wf_of hb
  simp [Program.keyLits, Try.underlying86, Try.underlying3, ak_cells.1, ak_cells.2, h1, h2, List.range_succ]
set_option maxRecDepth 100000 in
theorem ak_key {a b : Int} (ha : I64 a) (hb : I64 b) : ∃ kl, keyOf Try.prog 86 (.agg #[.int .i64 a, .int .i64 b]) = some kl := by
  obtain ⟨m, hm⟩ := ak_size
  have h := ak_lits ha hb m
  rw [← hm] at h
  have hf : (Value.agg #[.int .i64 a, .int .i64 b]).formed Try.prog 86 = true := by simp [Value.formed, Try.underlying86, ak_cells]
  unfold keyOf
  rw [Try.underlying86]
  dsimp only
  rw [ak_type, hf]
  simp only [Bool.and_self, if_true]
  exact ⟨_, by show Option.map _ (Try.prog.keyLits _ _ [.int .i64 a, .int .i64 b]) = _; rw [h]; rfl⟩
/-- Block b holds a set of pairs. -/
def DnAt (W : World) (b n : Nat) (D : List (Nat × Nat)) : Prop := ∃ Dd : DataW Unit, W.ownsMap Try.prog 86 unitElem b n Dd ∧
  ∀ x y : Nat, I64 (x : Int) → I64 (y : Int) → ∀ kl, keyOf Try.prog 86 (.agg #[.int .i64 (x : Int), .int .i64 (y : Int)]) = some kl → Maps.has Dd kl = decide ((x, y) ∈ D)
theorem DnAt.same {W W' : World} {b n : Nat} {D : List (Nat × Nat)} (h : DnAt W b n D) (hs : W'.heap[b]? = W.heap[b]?) : DnAt W' b n D := by
  obtain ⟨Dd, ⟨es, cl, h1, h2⟩, h3⟩ := h
  exact ⟨Dd, ⟨es, cl, hs.trans h1, h2⟩, h3⟩
theorem DnAt.lt {W : World} {b n : Nat} {D : List (Nat × Nat)} (h : DnAt W b n D) : b < W.heap.size := by
  obtain ⟨Dd, h1, _⟩ := h
  exact h1.lt
theorem DnAt.block {W : World} {b n : Nat} {D : List (Nat × Nat)} (h : DnAt W b n D) : ∃ o, W.heap[b]? = some o ∧ ∀ A s, o ≠ .cells A s := by
  obtain ⟨D, ⟨es, cl, h1, _⟩, _⟩ := h
  exact ⟨_, h1, fun A s h => by cases h⟩
theorem dn_new (w : World) : DnAt (w.alloc (.map #[] 0)) w.heap.size 0 [] :=
  ⟨.map [], World.ownsMap_made w _ _ _, fun _ _ _ _ _ _ => rfl⟩
theorem dn_zero (w : World) : (zeroValue 161).run Try.prog w = .ok (.agg #[]) w := by kernel_rfl
set_option maxRecDepth 100000 in
theorem dn_look {W : World} {b n : Nat} {D : List (Nat × Nat)} (h : DnAt W b n D) {x y : Nat} (hx : I64 (x : Int)) (hy : I64 (y : Int)) :
    (Instr.lookup 115 (.map (some b)) (.agg #[.int .i64 (x : Int), .int .i64 (y : Int)]) true).run Try.prog W = .ok (.tuple #[.agg #[], .bool (decide ((x, y) ∈ D))]) W := by
  obtain ⟨Dd, h1, h2⟩ := h
  obtain ⟨kl, hkl⟩ := ak_key hx hy
  have g1 := h2 x y hx hy kl hkl
  obtain ⟨v, ps, hrun, hv⟩ := h1.look_ok ak_law (t := 115) (e := 161) Try.underlying115 (dn_zero W) unitElem_mk hkl
  obtain ⟨rfl, _⟩ := unitElem_inv hv
  rw [g1] at hrun
  exact hrun
set_option maxRecDepth 100000 in
theorem dn_put {W : World} {b n : Nat} {D : List (Nat × Nat)} (h : DnAt W b n D) {x y : Nat} (hx : I64 (x : Int)) (hy : I64 (y : Int)) (hn : n < maxLen) :
    ∃ W', (Instr.mapUpdate 115 (.map (some b)) (.agg #[.int .i64 (x : Int), .int .i64 (y : Int)]) (.agg #[])).run Try.prog W = .ok () W' ∧ DnAt W' b (n + 1) ((x, y) :: D) ∧ W.grownBy W' (some b) := by
  obtain ⟨Dd, h1, h2⟩ := h
  obtain ⟨kl, hkl⟩ := ak_key hx hy
  obtain ⟨w', r1, r2, r3⟩ := h1.update ak_law (t := 115) (e := 161) Try.underlying115 hn hkl (unitElem_mk (H := Unit))
  refine ⟨w', r1, ⟨_, r2, fun x' y' hx' hy' kl' hkl' => ?_⟩, r3⟩
  by_cases he : x' = x ∧ y' = y
  · obtain ⟨rfl, rfl⟩ := he
    rw [hkl] at hkl'; injection hkl' with hkl'; subst hkl'
    have hK : WideAt.IsKeyLit kl := ak_law.key hkl
    rw [Maps.has_put_same h1.isMap hK]; simp
  · have hne : kl' ≠ kl := fun e => he (by
      have := ak_law.inj hkl' (e ▸ hkl)
      injection this with this
      have h3 := congrArg Array.toList this
      simp at h3
      omega)
    have g1 := h2 x' y' hx' hy' kl' hkl'
    rw [Maps.has_put_other hne, g1]
    have : (x', y') ≠ (x, y) := fun e => he (by injection e with a b; exact ⟨a, b⟩)
    simp [this]
end Go.Proofs.Yteolbbgnkbcfmaa
