/- Plain facts on the variables of a type and on putT. -/
import Derived.Test.YtlmcklicnmbhdaaTkC
namespace Go.Proofs.Ytlmcklicnmbhdaa
open Go
open Tp (T)

/-- No number twice: each is not among those before it. -/
def Fresh (L : List Int) : Prop := ∀ k (h : k < L.length), ¬ L[k] ∈ L.take k
theorem Fresh.nil : Fresh [] := fun k h => by simp at h
theorem Fresh.add {L : List Int} (h : Fresh L) (k n : Int) : Fresh (Tp.addVar k n L) := by
  unfold Tp.addVar
  split
  · rename_i hc
    intro i hi
    rw [List.length_append, List.length_singleton] at hi
    by_cases e : i < L.length
    · rw [List.getElem_append_left e, List.take_append_of_le_length (by omega)]
      exact h i e
    · have : i = L.length := by omega
      subst this
      rw [List.getElem_append_right (Nat.le_refl _)]
      simpa using hc.2
  · exact h
mutual
theorem vars_fresh : ∀ (t : T) (acc : List Int), Fresh acc → Fresh (Tp.vars t acc)
  | .mk k n l, acc, h => by simp only [Tp.vars]; exact varss_fresh l _ (h.add k n)
theorem varss_fresh : ∀ (l : List T) (acc : List Int), Fresh acc → Fresh (Tp.varss l acc)
  | [], _, h => by simpa [Tp.varss] using h
  | t :: r, acc, h => by simp only [Tp.varss]; exact varss_fresh r _ (vars_fresh t acc h)
end
mutual
theorem vars_nil : ∀ (t : T) (acc : List Int), Tp.vars t acc = [] ↔ acc = [] ∧ Tp.without 6 t = true
  | .mk k n l, acc => by
    simp only [Tp.vars, Tp.without, Bool.and_eq_true, Bool.not_eq_true', decide_eq_false_iff_not]
    rw [varss_nil l]
    unfold Tp.addVar
    by_cases hk : k = 6
    · subst hk
      by_cases hn : n ∈ acc
      · have : acc ≠ [] := fun e => by rw [e] at hn; cases hn
        simp [this, hn]
      · simp [hn]
    · simp [hk]
theorem varss_nil : ∀ (l : List T) (acc : List Int), Tp.varss l acc = [] ↔ acc = [] ∧ Tp.withouts 6 l = true
  | [], acc => by simp [Tp.varss, Tp.withouts]
  | t :: r, acc => by
    simp only [Tp.varss, Tp.withouts, Bool.and_eq_true]
    rw [varss_nil r, vars_nil t, and_assoc]
end
theorem vars_len (t : T) : (((Tp.vars t []).length : Int) == 0) = Tp.without 6 t := by
  rw [Bool.eq_iff_iff, beq_iff_eq]
  have := vars_nil t []
  constructor
  · intro h
    exact (this.1 (List.eq_nil_of_length_eq_zero (by omega))).2
  · intro h
    rw [this.2 ⟨rfl, h⟩]; rfl
mutual
theorem put_size (q : Int) : ∀ t : T, Tp.size (putT q t) = Tp.size t
  | .mk k n l => by simp only [putT, Tp.size, put_sizes q l]
theorem put_sizes (q : Int) : ∀ l : List T, Tp.sizes (putL q l) = Tp.sizes l
  | [] => by simp [putL]
  | t :: r => by simp only [putL, Tp.sizes, put_size q t, put_sizes q r]
end
mutual
theorem put_static (q : Int) : ∀ t : T, Tp.without 5 (putT q t) = true
  | .mk k n l => by
    simp only [putT, Tp.without, put_statics q l, Bool.and_true, Bool.not_eq_true', decide_eq_false_iff_not]
    split <;> omega
theorem put_statics (q : Int) : ∀ l : List T, Tp.withouts 5 (putL q l) = true
  | [] => by simp [putL, Tp.withouts]
  | t :: r => by simp only [putL, Tp.withouts, put_static q t, put_statics q r, Bool.and_self]
end
mutual
theorem put_closed (q : Int) : ∀ t : T, Tp.without 6 (putT q t) = (Tp.without 6 t && Tp.without 5 t)
  | .mk k n l => by
    simp only [putT, Tp.without, put_closeds q l]
    by_cases h5 : k = 5
    · subst h5; simp
    · simp only [h5, if_false, decide_false, Bool.not_false, Bool.true_and]
      cases (!decide (k = 6)) <;> simp
theorem put_closeds (q : Int) : ∀ l : List T, Tp.withouts 6 (putL q l) = (Tp.withouts 6 l && Tp.withouts 5 l)
  | [] => by simp [putL, Tp.withouts]
  | t :: r => by
    simp only [putL, Tp.withouts, put_closed q t, put_closeds q r]
    cases Tp.without 6 t <;> cases Tp.without 5 t <;> cases Tp.withouts 6 r <;> rfl
end
/-- The variables of a type, and those of the type with the variable r for each ?. -/
structure Twin (r : Int) (a b : List Int) : Prop where
  sub : ∀ x ∈ a, x ∈ b
  more : ∀ x ∈ b, x ∈ a ∨ x = r
  one : r ∈ b → ¬ r ∈ a → b.length = a.length + 1
  none : (r ∈ b → r ∈ a) → b.length = a.length
theorem Twin.nil (r : Int) : Twin r [] [] := ⟨fun _ h => h, fun _ h => .inl h, fun h => (by cases h), fun _ => rfl⟩
theorem Twin.both {r : Int} {a b : List Int} (h : Twin r a b) (n : Int) : Twin r (Tp.addVar 6 n a) (Tp.addVar 6 n b) := by
  unfold Tp.addVar
  by_cases ha : n ∈ a
  · have hb := h.sub n ha
    simpa [ha, hb] using h
  · by_cases hb : n ∈ b
    · obtain rfl : n = r := (h.more n hb).resolve_left ha
      simp only [ha, hb, not_true, not_false_eq_true, and_self, and_false, if_true, if_false]
      refine ⟨fun x hx => ?_, fun x hx => ?_, fun _ hx => absurd (by simp) hx, fun _ => ?_⟩
      · rcases List.mem_append.1 hx with hx | hx
        · exact h.sub x hx
        · rw [List.mem_singleton.1 hx]; exact hb
      · rcases h.more x hx with hx | hx
        · exact .inl (List.mem_append_left _ hx)
        · exact .inr hx
      · rw [List.length_append, List.length_singleton]; exact h.one hb ha
    · simp only [ha, hb, not_false_eq_true, and_self, if_true]
      refine ⟨fun x hx => ?_, fun x hx => ?_, fun h1 h2 => ?_, fun h1 => ?_⟩
      · rcases List.mem_append.1 hx with hx | hx
        · exact List.mem_append_left _ (h.sub x hx)
        · exact List.mem_append_right _ hx
      · rcases List.mem_append.1 hx with hx | hx
        · exact (h.more x hx).imp_left (List.mem_append_left _)
        · exact .inl (List.mem_append_right _ hx)
      · rcases List.mem_append.1 h1 with h3 | h3
        · have := h.one h3 (fun h4 => h2 (List.mem_append_left _ h4))
          rw [List.length_append, List.length_append, this]; simp
        · exact absurd (List.mem_append_right _ h3) h2
      · have : b.length = a.length := by
          refine h.none fun h3 => ?_
          rcases List.mem_append.1 (h1 (List.mem_append_left _ h3)) with h4 | h4
          · exact h4
          · rw [← List.mem_singleton.1 h4] at hb; exact absurd h3 hb
        rw [List.length_append, List.length_append, this]
theorem Twin.dyn {r : Int} {a b : List Int} (h : Twin r a b) : Twin r a (Tp.addVar 6 r b) := by
  unfold Tp.addVar
  by_cases hb : r ∈ b
  · simpa [hb] using h
  · have ha : ¬ r ∈ a := fun h1 => hb (h.sub r h1)
    simp only [hb, not_false_eq_true, and_self, if_true]
    refine ⟨fun x hx => List.mem_append_left _ (h.sub x hx), fun x hx => ?_, fun _ _ => ?_, fun h1 => absurd (h1 (List.mem_append_right _ (List.mem_singleton.2 rfl))) ha⟩
    · rcases List.mem_append.1 hx with hx | hx
      · exact h.more x hx
      · exact .inr (List.mem_singleton.1 hx)
    · rw [List.length_append, List.length_singleton, h.none (fun h1 => absurd h1 hb)]
theorem Twin.step {r : Int} {a b : List Int} (h : Twin r a b) (k n : Int) : Twin r (Tp.addVar k n a) (Tp.addVar (if k = 5 then 6 else k) (if k = 5 then r else n) b) := by
  by_cases h5 : k = 5
  · subst h5
    have e : Tp.addVar 5 n a = a := by simp [Tp.addVar]
    rw [e]
    exact h.dyn
  · simp only [h5, if_false]
    by_cases h6 : k = 6
    · subst h6; exact h.both n
    · have e : ∀ l, Tp.addVar k n l = l := fun l => by simp [Tp.addVar, h6]
      rw [e, e]; exact h
mutual
theorem vars_twin (r : Int) : ∀ (t : T) (a b : List Int), Twin r a b → Twin r (Tp.vars t a) (Tp.vars (putT r t) b)
  | .mk k n l, a, b, h => by simp only [putT, Tp.vars]; exact varss_twin r l _ _ (h.step k n)
theorem varss_twin (r : Int) : ∀ (l : List T) (a b : List Int), Twin r a b → Twin r (Tp.varss l a) (Tp.varss (putL r l) b)
  | [], a, b, h => by simpa [putL, Tp.varss] using h
  | t :: s, a, b, h => by simp only [putL, Tp.varss]; exact varss_twin r s _ _ (vars_twin r t a b h)
end
theorem vars_put_len (r : Int) (t : T) : (Tp.vars t []).length ≤ (Tp.vars (putT r t) []).length ∧ (Tp.vars (putT r t) []).length ≤ (Tp.vars t []).length + 1 := by
  have h := vars_twin r t [] [] (Twin.nil r)
  by_cases h1 : r ∈ Tp.vars (putT r t) []
  · by_cases h2 : r ∈ Tp.vars t []
    · have := h.none (fun _ => h2); omega
    · have := h.one h1 h2; omega
  · have := h.none (fun h => absurd h h1); omega
mutual
theorem vlen_le : ∀ (t : T) (acc : List Int), (Tp.vars t acc).length ≤ acc.length + Tp.size t
  | .mk k n l, acc => by
    have h1 := vlens_le l (Tp.addVar k n acc)
    have h2 : (Tp.addVar k n acc).length ≤ acc.length + 1 := by unfold Tp.addVar; split <;> simp
    simp only [Tp.vars, Tp.size]; omega
theorem vlens_le : ∀ (l : List T) (acc : List Int), (Tp.varss l acc).length ≤ acc.length + Tp.sizes l
  | [], acc => by simp [Tp.varss]
  | t :: r, acc => by
    have h1 := vlen_le t acc
    have h2 := vlens_le r (Tp.vars t acc)
    simp only [Tp.varss, Tp.sizes]; omega
end
end Go.Proofs.Ytlmcklicnmbhdaa
