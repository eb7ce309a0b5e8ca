/- Plain facts on types that agree, and their meet. -/
import Derived.Test.YtaaapdfdedknfaaTpP
namespace Go.Proofs.Ytaaapdfdedknfaa.Tp
mutual
/-- Do two types agree, if they are right? -/
def agree : T → T → Bool
  | .mk k n l, .mk k' n' l' => if k = 5 then without 6 (.mk k' n' l') else if k' = 5 then without 6 (.mk k n l) else decide (k = k') && decide (n = n') && agrees l l'
def agrees : List T → List T → Bool
  | a :: r, b :: s => agree a b && agrees r s
  | _, _ => true
end
mutual
/-- The meet of types that agree. -/
def meet : T → T → T
  | .mk k n l, .mk k' n' l' => if k = 5 then .mk k' n' l' else if k' = 5 then .mk k n l else .mk k n (meets l l')
def meets : List T → List T → List T
  | a :: r, b :: s => meet a b :: meets r s
  | _, _ => []
end
/-- Is one of two nodes a ?; do two nodes fit, as far as it does not hang on their kids? -/
def ends (x y : T) : Bool := decide (x.kind = 5) || decide (y.kind = 5)
def fit (x y : T) : Bool := if x.kind = 5 then without 6 y else if y.kind = 5 then without 6 x else decide (x.kind = y.kind) && decide (x.num = y.num)
def agz (p : List (T × T)) : Bool := p.all fun q => agree q.1 q.2
theorem agrees_zip : ∀ l m : List T, agrees l m = agz (l.zip m)
  | [], _ => by simp [agrees, agz]
  | _ :: _, [] => by simp [agrees, agz]
  | a :: r, b :: s => by simp only [agrees, List.zip_cons_cons, agz, List.all_cons, agrees_zip r s]
theorem agz_append (p q : List (T × T)) : agz (p ++ q) = (agz p && agz q) := by simp [agz]
theorem agree_node (x y : T) : agree x y = (fit x y && (ends x y || agz (x.kids.zip y.kids))) := by
  cases x with
  | mk k n l =>
    cases y with
    | mk k' n' l' =>
      simp only [agree, fit, ends, T.kind, T.num, T.kids, agrees_zip]
      by_cases h : k = 5
      · simp [h]
      · by_cases h' : k' = 5
        · simp [h, h']
        · simp [h, h']; rfl
theorem right_node {k n : Int} {l : List T} (h : right (.mk k n l) = true) : arity k = l.length ∧ rights l = true ∧ 0 ≤ n ∧ n ≤ 1048576 ∧ (k ≠ 6 → n = 0) := by
  simp only [right, nodeRight, Bool.and_eq_true, decide_eq_true_eq, Bool.or_eq_true] at h
  obtain ⟨⟨⟨⟨h1, h2⟩, h3⟩, h4⟩, h5⟩ := h
  exact ⟨h1, h5, h2, h3, fun h => h4.resolve_left h⟩
theorem right_dyn {n : Int} {l : List T} (h : right (.mk 5 n l) = true) : n = 0 ∧ l = [] := by
  obtain ⟨h1, _, _, _, h5⟩ := right_node h
  refine ⟨h5 (by omega), ?_⟩
  have : l.length = 0 := by simp [arity] at h1; omega
  exact List.length_eq_zero_iff.1 this
theorem kids_len {k n n' : Int} {l l' : List T} (h : right (.mk k n l) = true) (h' : right (.mk k n' l') = true) : l.length = l'.length := by
  have h1 := (right_node h).1
  have h2 := (right_node h').1
  omega
theorem rights_cons {t : T} {r : List T} (h : rights (t :: r) = true) : right t = true ∧ rights r = true := by simpa [rights] using h
mutual
theorem agree_comm : ∀ a b : T, right a = true → right b = true → agree a b = agree b a
  | .mk k n l, .mk k' n' l', ha, hb => by
    simp only [agree]
    by_cases h : k = 5
    · subst h
      by_cases h' : k' = 5
      · subst h'
        obtain ⟨rfl, rfl⟩ := right_dyn ha
        obtain ⟨rfl, rfl⟩ := right_dyn hb
        rfl
      · simp [h']
    · by_cases h' : k' = 5
      · simp [h, h']
      · simp only [h, h', if_false]
        by_cases hk : k = k'
        · subst hk
          rw [agrees_comm l l' (right_node ha).2.1 (right_node hb).2.1, decide_eq_decide.2 (eq_comm (a := n) (b := n'))]
        · have hk' : ¬ k' = k := fun h => hk h.symm
          simp [hk, hk']
theorem agrees_comm : ∀ a b : List T, rights a = true → rights b = true → agrees a b = agrees b a
  | [], [], _, _ => rfl
  | [], _ :: _, _, _ => rfl
  | _ :: _, [], _, _ => rfl
  | a :: r, b :: s, ha, hb => by
    simp only [agrees]
    rw [agree_comm a b (rights_cons ha).1 (rights_cons hb).1, agrees_comm r s (rights_cons ha).2 (rights_cons hb).2]
end
mutual
theorem agree_self : ∀ a : T, right a = true → agree a a = true
  | .mk k n l, ha => by
    simp only [agree]
    by_cases h : k = 5
    · subst h
      obtain ⟨rfl, rfl⟩ := right_dyn ha
      rfl
    · simp only [h, if_false, decide_true, Bool.true_and, agrees_self l (right_node ha).2.1]
theorem agrees_self : ∀ a : List T, rights a = true → agrees a a = true
  | [], _ => rfl
  | a :: r, ha => by simp only [agrees, agree_self a (rights_cons ha).1, agrees_self r (rights_cons ha).2, Bool.and_self]
end
mutual
theorem meet_self : ∀ a : T, meet a a = a
  | .mk k n l => by
    simp only [meet]
    by_cases h : k = 5
    · simp [h]
    · simp only [h, if_false, meets_self l]
theorem meets_self : ∀ a : List T, meets a a = a
  | [] => rfl
  | a :: r => by simp only [meets, meet_self a, meets_self r]
end
mutual
theorem meet_comm : ∀ a b : T, right a = true → right b = true → agree a b = true → meet a b = meet b a
  | .mk k n l, .mk k' n' l', ha, hb, hg => by
    simp only [agree] at hg
    simp only [meet]
    by_cases h : k = 5
    · subst h
      by_cases h' : k' = 5
      · subst h'
        obtain ⟨rfl, rfl⟩ := right_dyn ha
        obtain ⟨rfl, rfl⟩ := right_dyn hb
        rfl
      · simp [h']
    · by_cases h' : k' = 5
      · simp [h, h']
      · simp only [h, h', if_false, Bool.and_eq_true, decide_eq_true_eq] at hg ⊢
        obtain ⟨⟨h1, h2⟩, h3⟩ := hg
        subst h1 h2
        rw [meets_comm l l' (right_node ha).2.1 (right_node hb).2.1 h3]
theorem meets_comm : ∀ a b : List T, rights a = true → rights b = true → agrees a b = true → meets a b = meets b a
  | [], [], _, _, _ => rfl
  | [], _ :: _, _, _, _ => rfl
  | _ :: _, [], _, _, _ => rfl
  | a :: r, b :: s, ha, hb, hg => by
    simp only [agrees, Bool.and_eq_true] at hg
    simp only [meets]
    rw [meet_comm a b (rights_cons ha).1 (rights_cons hb).1 hg.1, meets_comm r s (rights_cons ha).2 (rights_cons hb).2 hg.2]
end
theorem meets_length : ∀ a b : List T, a.length = b.length → (meets a b).length = a.length
  | [], [], _ => rfl
  | a :: r, b :: s, h => by simp only [meets, List.length_cons, meets_length r s (by simpa using h)]
mutual
theorem meet_right : ∀ a b : T, right a = true → right b = true → agree a b = true → right (meet a b) = true
  | .mk k n l, .mk k' n' l', ha, hb, hg => by
    simp only [agree] at hg
    simp only [meet]
    by_cases h : k = 5
    · simpa [h] using hb
    · by_cases h' : k' = 5
      · simpa [h, h'] using ha
      · simp only [h, h', if_false, Bool.and_eq_true, decide_eq_true_eq] at hg ⊢
        obtain ⟨⟨h1, h2⟩, h3⟩ := hg
        subst h1 h2
        have hl := kids_len ha hb
        have hr := meets_right l l' (right_node ha).2.1 (right_node hb).2.1 h3
        simp only [right, meets_length l l' hl, hr, Bool.and_true] at ha ⊢
        exact (Bool.and_eq_true _ _ ▸ ha).1
theorem meets_right : ∀ a b : List T, rights a = true → rights b = true → agrees a b = true → rights (meets a b) = true
  | [], [], _, _, _ => rfl
  | [], _ :: _, _, _, _ => rfl
  | _ :: _, [], _, _, _ => rfl
  | a :: r, b :: s, ha, hb, hg => by
    simp only [agrees, Bool.and_eq_true] at hg
    simp only [meets, rights, meet_right a b (rights_cons ha).1 (rights_cons hb).1 hg.1, meets_right r s (rights_cons ha).2 (rights_cons hb).2 hg.2, Bool.and_self]
end
mutual
theorem without_meet (x : Int) : ∀ a b : T, without x a = true → without x b = true → without x (meet a b) = true
  | .mk k n l, .mk k' n' l', ha, hb => by
    simp only [meet]
    by_cases h : k = 5
    · simpa [h] using hb
    · by_cases h' : k' = 5
      · simpa [h, h'] using ha
      · simp only [h, h', if_false, without, Bool.and_eq_true] at ha hb ⊢
        exact ⟨ha.1, withouts_meets x l l' ha.2 hb.2⟩
theorem withouts_meets (x : Int) : ∀ a b : List T, withouts x a = true → withouts x b = true → withouts x (meets a b) = true
  | [], [], _, _ => rfl
  | [], _ :: _, _, _ => rfl
  | _ :: _, [], _, _ => rfl
  | a :: r, b :: s, ha, hb => by
    simp only [withouts, Bool.and_eq_true] at ha hb
    simp only [meets, withouts, without_meet x a b ha.1 hb.1, withouts_meets x r s ha.2 hb.2, Bool.and_self]
end
theorem meet_alike {k n n' : Int} {l l' : List T} (h : ¬ k = 5) : meet (.mk k n l) (.mk k n' l') = .mk k n (meets l l') := by unfold meet; rw [if_neg h, if_neg h]
theorem agree_alike {k n : Int} {l l' : List T} (h : ¬ k = 5) : agree (.mk k n l) (.mk k n l') = agrees l l' := by unfold agree; rw [if_neg h, if_neg h, decide_eq_true rfl, decide_eq_true rfl]; rfl
mutual
/-- What agrees agrees with its meet, and the meet of that and the first is the meet. -/
theorem agree_meet : ∀ a b : T, right a = true → right b = true → agree a b = true → agree a (meet a b) = true ∧ meet a (meet a b) = meet a b
  | .mk k n l, .mk k' n' l', ha, hb, hg => by
    by_cases h : k = 5
    · subst h
      simp only [agree, if_true] at hg
      simp only [meet, if_true, agree]
      exact ⟨hg, trivial⟩
    · by_cases h' : k' = 5
      · subst h'
        rw [show meet (.mk k n l) (.mk 5 n' l') = .mk k n l from by simp [meet, h]]
        exact ⟨agree_self _ ha, meet_self _⟩
      · simp only [agree, h, h', if_false, Bool.and_eq_true, decide_eq_true_eq] at hg
        obtain ⟨⟨h1, h2⟩, h3⟩ := hg
        subst h1 h2
        obtain ⟨i1, i2⟩ := agrees_meets l l' (right_node ha).2.1 (right_node hb).2.1 (kids_len ha hb) h3
        refine ⟨?_, ?_⟩
        · rw [meet_alike h, agree_alike h]; exact i1
        · rw [meet_alike h, meet_alike h, i2]
  termination_by a => 2 * size a
  decreasing_by all_goals (simp only [size]; omega)
theorem agrees_meets : ∀ a b : List T, rights a = true → rights b = true → a.length = b.length → agrees a b = true → agrees a (meets a b) = true ∧ meets a (meets a b) = meets a b
  | [], [], _, _, _, _ => ⟨rfl, rfl⟩
  | a :: r, b :: s, ha, hb, hl, hg => by
    simp only [agrees, Bool.and_eq_true] at hg
    obtain ⟨i1, i2⟩ := agree_meet a b (rights_cons ha).1 (rights_cons hb).1 hg.1
    obtain ⟨j1, j2⟩ := agrees_meets r s (rights_cons ha).2 (rights_cons hb).2 (by simpa using hl) hg.2
    refine ⟨?_, ?_⟩
    · simp only [meets, agrees, Bool.and_eq_true]; exact ⟨i1, j1⟩
    · simp only [meets]; rw [i2, j2]
  termination_by a => 2 * sizes a + 1
  decreasing_by all_goals (have := size_pos a; simp only [sizes]; omega)
end
mutual
/-- The first is no greater than the meet; a meet of a static one is static. -/
theorem meet_size : ∀ a b : T, right a = true → right b = true → agree a b = true → size a ≤ size (meet a b) ∧ (without 5 a = true → without 5 (meet a b) = true) ∧ size (meet a b) ≤ size a + size b
  | .mk k n l, .mk k' n' l', ha, hb, hg => by
    by_cases h : k = 5
    · subst h
      obtain ⟨rfl, rfl⟩ := right_dyn ha
      simp only [meet, if_true]
      refine ⟨?_, fun h => ?_, by omega⟩
      · simp [size, sizes]
      · simp [without] at h
    · by_cases h' : k' = 5
      · subst h'
        rw [show meet (.mk k n l) (.mk 5 n' l') = .mk k n l from by simp [meet, h]]
        exact ⟨Nat.le_refl _, id, by omega⟩
      · simp only [agree, h, h', if_false, Bool.and_eq_true, decide_eq_true_eq] at hg
        obtain ⟨⟨h1, h2⟩, h3⟩ := hg
        subst h1 h2
        obtain ⟨i1, i2, i3⟩ := meets_size l l' (right_node ha).2.1 (right_node hb).2.1 (kids_len ha hb) h3
        simp only [meet, h, if_false, size, without, Bool.and_eq_true]
        exact ⟨by omega, fun x => ⟨x.1, i2 x.2⟩, by omega⟩
theorem meets_size : ∀ a b : List T, rights a = true → rights b = true → a.length = b.length → agrees a b = true → sizes a ≤ sizes (meets a b) ∧ (withouts 5 a = true → withouts 5 (meets a b) = true) ∧ sizes (meets a b) ≤ sizes a + sizes b
  | [], [], _, _, _, _ => ⟨Nat.le_refl _, id, Nat.zero_le _⟩
  | a :: r, b :: s, ha, hb, hl, hg => by
    simp only [agrees, Bool.and_eq_true] at hg
    obtain ⟨i1, i2, i3⟩ := meet_size a b (rights_cons ha).1 (rights_cons hb).1 hg.1
    obtain ⟨j1, j2, j3⟩ := meets_size r s (rights_cons ha).2 (rights_cons hb).2 (by simpa using hl) hg.2
    simp only [meets, sizes, withouts, Bool.and_eq_true]
    exact ⟨by omega, fun x => ⟨i2 x.1, j2 x.2⟩, by omega⟩
end
mutual
/-- Static types agree just if they are the same. -/
theorem agree_static : ∀ a b : T, right a = true → right b = true → without 5 a = true → without 5 b = true → agree a b = same a b
  | .mk k n l, .mk k' n' l', ha, hb, sa, sb => by
    simp only [without, Bool.and_eq_true, Bool.not_eq_true', decide_eq_false_iff_not] at sa sb
    simp only [agree, same, sa.1, sb.1, if_false]
    by_cases hk : k = k'
    · subst hk
      have hl := kids_len ha hb
      rw [agrees_static l l' (right_node ha).2.1 (right_node hb).2.1 sa.2 sb.2]
      simp [hl]
    · simp [hk]
theorem agrees_static : ∀ a b : List T, rights a = true → rights b = true → withouts 5 a = true → withouts 5 b = true → agrees a b = sames a b
  | [], [], _, _, _, _ => rfl
  | [], _ :: _, _, _, _, _ => rfl
  | _ :: _, [], _, _, _, _ => rfl
  | a :: r, b :: s, ha, hb, sa, sb => by
    simp only [withouts, Bool.and_eq_true] at sa sb
    simp only [agrees, sames, agree_static a b (rights_cons ha).1 (rights_cons hb).1 sa.1 sb.1, agrees_static r s (rights_cons ha).2 (rights_cons hb).2 sa.2 sb.2]
end
end Go.Proofs.Ytaaapdfdedknfaa.Tp
