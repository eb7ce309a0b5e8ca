/- The law's Less, plainly. -/
import Derived.Test.YtcnnahmchjeakaaPrT
namespace Go.Proofs.Ytcnnahmchjeakaa.Tp
mutual
/-- A type with those of its nodes become ? that a row says; what is left of the row. -/
def less : T → List Bool → T × List Bool
  | .mk k n l, bs => if bs.head? = some true then (.mk 5 0 [], bs.tail) else ((.mk k n (lesses l bs.tail).1), (lesses l bs.tail).2)
def lesses : List T → List Bool → List T × List Bool
  | [], bs => ([], bs)
  | t :: r, bs => ((less t bs).1 :: (lesses r (less t bs).2).1, (lesses r (less t bs).2).2)
end
theorem lesses_length : ∀ (l : List T) (bs : List Bool), (lesses l bs).1.length = l.length
  | [], _ => rfl
  | t :: r, bs => by simp only [lesses, List.length_cons, lesses_length r]
mutual
theorem less_facts : ∀ (t : T) (bs : List Bool), right t = true → right (less t bs).1 = true ∧ below t (less t bs).1 = true ∧ size (less t bs).1 ≤ size t
  | .mk k n l, bs, h => by
    unfold less
    split
    · exact ⟨by simp [right, rights, nodeRight, arity], below_dyn _, by simp [size, sizes]⟩
    · obtain ⟨i1, i2, i3⟩ := lesses_facts l bs.tail (right_node h).2.1
      refine ⟨?_, below_iff.2 (.inr ⟨rfl, rfl, i2⟩), by simp only [size]; omega⟩
      simp only [right, lesses_length, i1, Bool.and_true] at h ⊢
      exact (Bool.and_eq_true _ _ ▸ h).1
theorem lesses_facts : ∀ (l : List T) (bs : List Bool), rights l = true → rights (lesses l bs).1 = true ∧ belows l (lesses l bs).1 = true ∧ sizes (lesses l bs).1 ≤ sizes l
  | [], _, _ => ⟨rfl, rfl, Nat.le_refl _⟩
  | t :: r, bs, h => by
    obtain ⟨i1, i2, i3⟩ := less_facts t bs (rights_cons h).1
    obtain ⟨j1, j2, j3⟩ := lesses_facts r (less t bs).2 (rights_cons h).2
    simp only [lesses, rights, belows, sizes, i1, i2, j1, j2]
    exact ⟨rfl, rfl, by omega⟩
end
theorem less_law {t : T} (bs : List Bool) (h : right t = true) : bl t (less t bs).1 = true ∧ bl (less t bs).1 t = same t (less t bs).1 ∧ size (less t bs).1 ≤ size t := by
  obtain ⟨i1, i2, i3⟩ := less_facts t bs h
  refine ⟨by unfold bl; rw [h, i1, i2]; rfl, ?_, i3⟩
  have e : bl (less t bs).1 t = below (less t bs).1 t := by unfold bl; rw [h, i1]; rfl
  rw [e]
  cases h2 : below (less t bs).1 t with
  | true => rw [← below_anti t _ h i1 i2 h2]; exact (same_refl t).symm
  | false =>
    cases h3 : same t (less t bs).1 with
    | false => rfl
    | true => rw [← (same_iff t _).1 h3, below_refl] at h2; cases h2
end Go.Proofs.Ytcnnahmchjeakaa.Tp
