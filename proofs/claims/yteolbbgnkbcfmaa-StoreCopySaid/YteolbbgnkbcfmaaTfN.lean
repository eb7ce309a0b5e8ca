/- An argument of type []int, opened. -/
import Derived.Test.YteolbbgnkbcfmaaSuS
import Derived.Test.YteolbbgnkbcfmaaTfA
import Derived.Deep.Slices
namespace Go.Proofs.Yteolbbgnkbcfmaa
open Go Go.ChangeShapes Go.WideShapes Go.ChangeAt Go.RowKit Go.Deep

variable {H : Type} {enc : TypeId × Value → H} {W : World} {sp : Nat → Bool} {held : Bool}
theorem cells_n : Try.prog.cellsOf 3 = 1 := by kernel_rfl
theorem rows_of_n {P : Nat → Int → Prop} : ∀ (len : Nat), (∀ i, i < len → ∃ t, P i t) → ∃ ts : List Int, ts.length = len ∧ ∀ i (h : i < ts.length), P i ts[i]
  | 0, _ => ⟨[], rfl, fun i h => by simp at h⟩
  | n + 1, h => by
    obtain ⟨ts, h1, h2⟩ := rows_of_n n fun i hi => h i (by omega)
    obtain ⟨t, ht⟩ := h n (by omega)
    refine ⟨ts ++ [t], by simp [h1], fun i hi => ?_⟩
    by_cases e : i < ts.length
    · rw [List.getElem_append_left e]; exact h2 i e
    · have : i = n := by simp at hi; omega
      subst this
      rw [List.getElem_append_right (by omega)]
      simpa [h1] using ht
set_option maxRecDepth 100000 in
theorem open_ints {b0 : Nat} {v : Value} {d : DataW H} {p : List MemPlace} (hv : Value.okWide Try.prog W .any b0 27 v) (h : DataW.Trod enc Try.prog W 0 sp held 27 v d p) :
    ∃ (xs : List Int) (a : Option Addr) (n cap : Nat), v = .slice a n cap ∧ NumsAt W.heap.size W xs a n cap := by
  obtain ⟨a0, n0, c0, rfl⟩ := okWide_slice Try.underlying27 hv
  obtain ⟨fuel, hf⟩ := h
  rcases open_slice1 Try.underlying27 cells_n hf with ⟨h1, -⟩ | ⟨a, len, cap, m, n, V, D, Pl, h1, -, hl, hm, hmm, -, hx⟩
  · simp only [Value.cells, List.cons.injEq, Value.slice.injEq, and_true] at h1
    obtain ⟨rfl, rfl, rfl⟩ := h1
    exact ⟨[], none, 0, 0, rfl, rfl, Nat.le_refl _, Nat.zero_le _, fun h => absurd rfl h, fun x h => by cases h⟩
  · simp only [Value.cells, List.cons.injEq, Value.slice.injEq, and_true] at h1
    obtain ⟨rfl, rfl, rfl⟩ := h1
    have hle : n0 ≤ m := by rw [hmm]; split <;> omega
    obtain ⟨xs, hxs, hall⟩ := rows_of_n (P := fun i x => W.cell? (a.add i) = some (.int .i64 x) ∧ I64 x) n0 (fun i hi => by
      obtain ⟨hc, ht⟩ := hx i (by omega)
      obtain ⟨x, hb, -, hw⟩ := DataW.trod_int Try.underlying3 ht
      injection hb with hb
      exact ⟨x, by rw [hc, hb], bounds_i64 hw⟩)
    refine ⟨xs, some a, n0, c0, rfl, hxs, hl, hm, fun hne => ?_, fun x hx => by
      obtain ⟨i, hi, rfl⟩ := List.mem_iff_getElem.1 hx
      exact (hall i hi).2⟩
    have hpos := List.length_pos_iff.2 hne
    have h0 := (hall 0 hpos).1
    have e00 : a.add 0 = a := by unfold Addr.add; cases a.spot <;> rfl
    rw [e00] at h0
    have hs := spot_none h0
    obtain ⟨b, o, s⟩ := a
    dsimp only at hs
    subst hs
    exact ⟨b, o, rfl, cell_lt h0, fun i hi => by have := (hall i hi).1; rwa [add_flat] at this⟩
end Go.Proofs.Yteolbbgnkbcfmaa
