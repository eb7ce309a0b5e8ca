/- An argument of type []bool, opened. -/
import Derived.Test.YtcnnahmchjeakaaPrN
import Derived.Test.YtcnnahmchjeakaaTfA
import Derived.Deep.Slices
namespace Go.Proofs.Ytcnnahmchjeakaa
open Go Go.ChangeShapes Go.WideShapes Go.ChangeAt Go.RowKit Go.Deep
open Tp (T)

variable {H : Type} {enc : TypeId × Value → H} {W : World} {sp : Nat → Bool} {held : Bool}
theorem cells_b : Try.prog.cellsOf 4 = 1 := by kernel_rfl
theorem rows_of_b {P : Nat → Bool → Prop} : ∀ (len : Nat), (∀ i, i < len → ∃ t, P i t) → ∃ ts : List Bool, ts.length = len ∧ ∀ i (h : i < ts.length), P i ts[i]
  | 0, _ => ⟨[], rfl, fun i h => by simp at h⟩
  | n + 1, h => by
    obtain ⟨ts, h1, h2⟩ := rows_of_b n fun i hi => h i (by omega)
    obtain ⟨t, ht⟩ := h n (by omega)
    refine ⟨ts ++ [t], by simp [h1], fun i hi => ?_⟩
    by_cases e : i < ts.length
    · rw [List.getElem_append_left e]; exact h2 i e
    · have : i = n := by simp at hi; omega
      subst this
      rw [List.getElem_append_right (by omega)]
      simpa [h1] using ht
theorem open_bools {b0 : Nat} {v : Value} {d : DataW H} {p : List MemPlace} (hv : Value.okWide Try.prog W .any b0 38 v) (h : DataW.Trod enc Try.prog W 0 sp held 38 v d p) :
    ∃ (bs : List Bool) (a : Option Addr) (n cap : Nat), v = .slice a n cap ∧ BoolsAt W.heap.size W bs a n cap := by
  obtain ⟨a0, n0, c0, rfl⟩ := okWide_slice Try.underlying38 hv
  obtain ⟨fuel, hf⟩ := h
  rcases open_slice1 Try.underlying38 cells_b hf with ⟨h1, -⟩ | ⟨a, len, cap, m, n, V, D, Pl, h1, -, hl, hm, hmm, -, hx⟩
  · simp only [Value.cells, List.cons.injEq, Value.slice.injEq, and_true] at h1
    obtain ⟨rfl, rfl, rfl⟩ := h1
    exact ⟨[], none, 0, 0, rfl, rfl, Nat.le_refl _, Nat.zero_le _, fun h => absurd rfl h⟩
  · simp only [Value.cells, List.cons.injEq, Value.slice.injEq, and_true] at h1
    obtain ⟨rfl, rfl, rfl⟩ := h1
    have hle : n0 ≤ m := by rw [hmm]; split <;> omega
    obtain ⟨bs, hbs, hall⟩ := rows_of_b (P := fun i b => W.cell? (a.add i) = some (.bool b)) n0 (fun i hi => by
      obtain ⟨hc, ht⟩ := hx i (by omega)
      obtain ⟨b, hb, -⟩ := DataW.trod_bool Try.underlying4 ht
      injection hb with hb
      exact ⟨b, by rw [hc, hb]⟩)
    refine ⟨bs, some a, n0, c0, rfl, hbs, hl, hm, fun hne => ?_⟩
    have hpos := List.length_pos_iff.2 hne
    have h0 := hall 0 hpos
    have e00 : a.add 0 = a := by unfold Addr.add; cases a.spot <;> rfl
    rw [e00] at h0
    have hs := spot_none h0
    obtain ⟨b, o, s⟩ := a
    dsimp only at hs
    subst hs
    exact ⟨b, o, rfl, cell_lt h0, fun i hi => by have := hall i hi; rwa [add_flat] at this⟩
end Go.Proofs.Ytcnnahmchjeakaa
