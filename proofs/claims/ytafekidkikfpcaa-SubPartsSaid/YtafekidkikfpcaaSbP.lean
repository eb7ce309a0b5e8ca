/- Plain facts on the three subtype relations. -/
import Derived.Test.YtafekidkikfpcaaPrP
namespace Go.Proofs.Ytafekidkikfpcaa.Tp
/-- The three relations: positive, negative, and both. -/
inductive Md where
  | p | n | s
def Md.flip : Md → Md
  | .p => .n
  | .n => .p
  | .s => .s
/-- Is a type a subtype of ?, or a negative one? -/
def dsub : T → Bool
  | .mk k _ l => if k = 5 then true else if k = 6 then false else
    match l with
    | [] => true
    | [a] => dsub a
    | [a, b] => if k = 9 then decide (a.kind = 5) && dsub b else dsub a && dsub b
    | _ => false
/-- Is one type in a relation to another one, if they are right? -/
def sd (m : Md) : T → T → Bool
  | .mk k n l, .mk k' n' l' =>
    if (m matches .n) = true ∧ k = 5 then true
    else if (m matches .p) = true ∧ k' = 5 then true
    else if l = [] ∧ k = k' ∧ n = n' then true
    else if k' = 5 then dsub (.mk k n l)
    else if k = k' then
      match l, l' with
      | [a], [c] => sd m a c
      | [a, b], [c, d] => if k = 9 then sd m.flip c a && sd m b d else sd m a c && sd m b d
      | _, _ => false
    else false
  termination_by a b => size a + size b
  decreasing_by all_goals (simp_wf; simp [size, sizes]; omega)
/-- The forms of a right type. -/
theorem right_shape {k n : Int} {l : List T} (h : right (.mk k n l) = true) : (l = [] ∧ k ≠ 7 ∧ k ≠ 8 ∧ k ≠ 9) ∨ (∃ a, l = [a] ∧ k = 8 ∧ n = 0 ∧ right a = true) ∨ (∃ a b, l = [a, b] ∧ (k = 7 ∨ k = 9) ∧ n = 0 ∧ right a = true ∧ right b = true) := by
  obtain ⟨h1, h2, h3, h4, h5⟩ := right_node h
  match l, h1, h2 with
  | [], h1, _ => left; unfold arity at h1; refine ⟨rfl, ?_, ?_, ?_⟩ <;> (rintro rfl; simp at h1)
  | [a], h1, h2 =>
    right; left
    simp only [rights, Bool.and_true] at h2
    have hk : k = 8 := by
      unfold arity at h1
      split at h1
      · simp at h1
      · split at h1
        · assumption
        · split at h1 <;> simp at h1
    exact ⟨a, rfl, hk, h5 (by omega), h2⟩
  | [a, b], h1, h2 =>
    right; right
    simp only [rights, Bool.and_true, Bool.and_eq_true] at h2
    have hk : k = 7 ∨ k = 9 := by
      unfold arity at h1
      split at h1
      · simp at h1
      · split at h1
        · simp at h1
        · split at h1
          · assumption
          · simp at h1
    exact ⟨a, b, rfl, hk, h5 (by omega), h2.1, h2.2⟩
  | _ :: _ :: _ :: _, h1, _ =>
    unfold arity at h1
    simp only [List.length_cons] at h1
    split at h1
    · omega
    · split at h1
      · omega
      · split at h1 <;> omega
/-- Two right types of one Kind, no ?. -/
theorem two_shape {a b : T} (ha : right a = true) (hb : right b = true) (hk : a.kind = b.kind) : (∃ k n n', k ≠ 7 ∧ k ≠ 8 ∧ k ≠ 9 ∧ a = .mk k n [] ∧ b = .mk k n' []) ∨ (∃ x y, a = .mk 8 0 [x] ∧ b = .mk 8 0 [y] ∧ right x = true ∧ right y = true) ∨
    (∃ x1 x2 y1 y2, a = .mk 7 0 [x1, x2] ∧ b = .mk 7 0 [y1, y2] ∧ right x1 = true ∧ right x2 = true ∧ right y1 = true ∧ right y2 = true) ∨ (∃ x1 x2 y1 y2, a = .mk 9 0 [x1, x2] ∧ b = .mk 9 0 [y1, y2] ∧ right x1 = true ∧ right x2 = true ∧ right y1 = true ∧ right y2 = true) := by
  cases a with
  | mk k n l =>
    cases b with
    | mk k' n' l' =>
      simp only [T.kind] at hk
      subst hk
      rcases right_shape ha with ⟨rfl, q1, q2, q3⟩ | ⟨x, rfl, rfl, rfl, hx⟩ | ⟨x1, x2, rfl, h9, rfl, hx1, hx2⟩
      · rcases right_shape hb with ⟨rfl, _⟩ | ⟨y, rfl, h8, _⟩ | ⟨y1, y2, rfl, h9, _⟩
        · exact .inl ⟨k, n, n', q1, q2, q3, rfl, rfl⟩
        · omega
        · omega
      · rcases right_shape hb with ⟨rfl, _, h8, _⟩ | ⟨y, rfl, _, rfl, hy⟩ | ⟨y1, y2, rfl, h9, _⟩
        · omega
        · exact .inr (.inl ⟨x, y, rfl, rfl, hx, hy⟩)
        · omega
      · rcases right_shape hb with ⟨rfl, h7, _, h99⟩ | ⟨y, rfl, h8, _⟩ | ⟨y1, y2, rfl, _, rfl, hy1, hy2⟩
        · omega
        · omega
        · rcases h9 with rfl | rfl
          · exact .inr (.inr (.inl ⟨x1, x2, y1, y2, rfl, rfl, hx1, hx2, hy1, hy2⟩))
          · exact .inr (.inr (.inr ⟨x1, x2, y1, y2, rfl, rfl, hx1, hx2, hy1, hy2⟩))
theorem dsub_dyn {a : T} (h : a.kind = 5) : dsub a = true := by cases a; simp only [T.kind] at h; unfold dsub; simp [h]
theorem sd_dyn {a b : T} (ha : right a = true) (hb : right b = true) (h5 : b.kind = 5) : sd .p a b = true ∧ sd .n a b = dsub a ∧ sd .s a b = dsub a := by
  cases a with
  | mk k n l =>
    cases b with
    | mk k' n' l' =>
      simp only [T.kind] at h5
      subst h5
      obtain ⟨rfl, rfl⟩ := right_dyn hb
      by_cases hk : k = 5
      · subst hk
        obtain ⟨rfl, rfl⟩ := right_dyn ha
        refine ⟨by unfold sd; simp, by unfold sd; simp [dsub], by unfold sd; simp [dsub]⟩
      · refine ⟨by unfold sd; simp, by unfold sd; simp [hk], by unfold sd; simp [hk]⟩
theorem sd_dynl {a b : T} (ha : right a = true) (h5 : a.kind = 5) (h5' : ¬ b.kind = 5) : sd .p a b = false ∧ sd .n a b = true ∧ sd .s a b = false := by
  cases a with
  | mk k n l =>
    cases b with
    | mk k' n' l' =>
      simp only [T.kind] at h5 h5'
      subst h5
      obtain ⟨rfl, rfl⟩ := right_dyn ha
      have h : ¬ (5 : Int) = k' := fun h => h5' h.symm
      refine ⟨by unfold sd; simp [h5', h], by unfold sd; simp, by unfold sd; simp [h5', h]⟩
theorem sd_ne {a b : T} (h5 : ¬ a.kind = 5) (h5' : ¬ b.kind = 5) (hk : ¬ a.kind = b.kind) (m : Md) : sd m a b = false := by
  cases a; cases b
  simp only [T.kind] at h5 h5' hk
  unfold sd; simp [h5, h5', hk]
theorem sd_leaf {k n n' : Int} (h5 : ¬ (T.mk k n []).kind = 5) (m : Md) : sd m (.mk k n []) (.mk k n' []) = decide (n = n') := by
  simp only [T.kind] at h5
  unfold sd; by_cases h : n = n' <;> simp [h5, h]
theorem sd_list (m : Md) (a c : T) : sd m (.mk 8 0 [a]) (.mk 8 0 [c]) = sd m a c := by
  conv => lhs; unfold sd
  simp
theorem sd_pair (m : Md) (a b c d : T) : sd m (.mk 7 0 [a, b]) (.mk 7 0 [c, d]) = (sd m a c && sd m b d) := by
  conv => lhs; unfold sd
  simp
theorem sd_fun (m : Md) (a b c d : T) : sd m (.mk 9 0 [a, b]) (.mk 9 0 [c, d]) = (sd m.flip c a && sd m b d) := by
  conv => lhs; unfold sd
  simp
end Go.Proofs.Ytafekidkikfpcaa.Tp
