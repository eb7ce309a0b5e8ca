/- Plain facts on precision: which type is below which, grounds. -/
import Derived.Test.YtncdbbjkafgphaaAgR
namespace Go.Proofs.Ytncdbbjkafgphaa.Tp
mutual
/-- Is one type below another, if they are right? -/
def below : T → T → Bool
  | .mk k n l, .mk k' n' l' => decide (k' = 5) || (decide (k = k') && decide (n = n') && belows l l')
def belows : List T → List T → Bool
  | a :: r, b :: s => below a b && belows r s
  | _, _ => true
end
def blz (p : List (T × T)) : Bool := p.all fun q => below q.1 q.2
theorem belows_zip : ∀ l m : List T, belows l m = blz (l.zip m)
  | [], _ => by simp [belows, blz]
  | _ :: _, [] => by simp [belows, blz]
  | a :: r, b :: s => by simp only [belows, List.zip_cons_cons, blz, List.all_cons, belows_zip r s]
theorem blz_append (p q : List (T × T)) : blz (p ++ q) = (blz p && blz q) := by simp [blz]
theorem blz_reverse (p : List (T × T)) : blz p.reverse = blz p := by simp [blz, List.all_reverse]
theorem below_node (x y : T) : below x y = (decide (y.kind = 5) || (decide (x.kind = y.kind) && decide (x.num = y.num) && blz (x.kids.zip y.kids))) := by
  cases x; cases y; simp only [below, T.kind, T.num, T.kids, belows_zip]; rfl
mutual
theorem below_refl : ∀ a : T, below a a = true
  | .mk k n l => by simp [below, belows_refl l]
theorem belows_refl : ∀ l : List T, belows l l = true
  | [] => rfl
  | a :: r => by simp [belows, below_refl a, belows_refl r]
end
theorem below_iff {k n k' n' : Int} {l l' : List T} : below (.mk k n l) (.mk k' n' l') = true ↔ (k' = 5 ∨ (k = k' ∧ n = n' ∧ belows l l' = true)) := by
  simp only [below, Bool.or_eq_true, Bool.and_eq_true, decide_eq_true_eq, and_assoc]
theorem below_dyn (a : T) : below a (.mk 5 0 []) = true := by cases a; simp [below]
mutual
theorem below_trans : ∀ a b c : T, right a = true → right b = true → right c = true → below a b = true → below b c = true → below a c = true
  | .mk k n l, .mk k' n' l', .mk k2 n2 l2, ha, hb, hc, h1, h2 => by
    rw [below_iff] at h1 h2 ⊢
    rcases h2 with h2 | ⟨h2, h3, h4⟩
    · exact .inl h2
    · subst h2 h3
      rcases h1 with h1 | ⟨h1, h5, h6⟩
      · exact .inl h1
      · subst h1 h5
        exact .inr ⟨rfl, rfl, belows_trans l l' l2 (right_node ha).2.1 (right_node hb).2.1 (right_node hc).2.1 (kids_len ha hb) h6 h4⟩
theorem belows_trans : ∀ a b c : List T, rights a = true → rights b = true → rights c = true → a.length = b.length → belows a b = true → belows b c = true → belows a c = true
  | [], _, _, _, _, _, _, _, _ => by simp [belows]
  | _ :: _, [], _, _, _, _, hl, _, _ => by simp at hl
  | _ :: _, _ :: _, [], _, _, _, _, _, _ => by simp [belows]
  | a :: r, b :: s, c :: q, ha, hb, hc, hl, h1, h2 => by
    simp only [belows, Bool.and_eq_true] at h1 h2 ⊢
    exact ⟨below_trans a b c (rights_cons ha).1 (rights_cons hb).1 (rights_cons hc).1 h1.1 h2.1, belows_trans r s q (rights_cons ha).2 (rights_cons hb).2 (rights_cons hc).2 (by simpa using hl) h1.2 h2.2⟩
end
mutual
theorem below_anti : ∀ a b : T, right a = true → right b = true → below a b = true → below b a = true → a = b
  | .mk k n l, .mk k' n' l', ha, hb, h1, h2 => by
    rw [below_iff] at h1 h2
    rcases h1 with h1 | ⟨h1, h3, h4⟩
    · subst h1
      rcases h2 with h2 | ⟨h2, h3, h4⟩
      · subst h2
        obtain ⟨rfl, rfl⟩ := right_dyn ha
        obtain ⟨rfl, rfl⟩ := right_dyn hb
        rfl
      · subst h2
        obtain ⟨rfl, rfl⟩ := right_dyn ha
        obtain ⟨rfl, rfl⟩ := right_dyn hb
        rfl
    · subst h1 h3
      rcases h2 with h2 | ⟨h2, h3, h5⟩
      · subst h2
        obtain ⟨-, rfl⟩ := right_dyn ha
        obtain ⟨-, rfl⟩ := right_dyn hb
        rfl
      · rw [belows_anti l l' (right_node ha).2.1 (right_node hb).2.1 (kids_len ha hb) h4 h5]
theorem belows_anti : ∀ a b : List T, rights a = true → rights b = true → a.length = b.length → belows a b = true → belows b a = true → a = b
  | [], [], _, _, _, _, _ => rfl
  | a :: r, b :: s, ha, hb, hl, h1, h2 => by
    simp only [belows, Bool.and_eq_true] at h1 h2
    rw [below_anti a b (rights_cons ha).1 (rights_cons hb).1 h1.1 h2.1, belows_anti r s (rights_cons ha).2 (rights_cons hb).2 (by simpa using hl) h1.2 h2.2]
end
mutual
/-- The meet is below the first. -/
theorem meet_below : ∀ a b : T, right a = true → right b = true → agree a b = true → below (meet a b) a = true
  | .mk k n l, .mk k' n' l', ha, hb, hg => by
    by_cases h : k = 5
    · rw [show meet (.mk k n l) (.mk k' n' l') = .mk k' n' l' from by simp [meet, h], below_iff]; exact .inl h
    · by_cases h' : k' = 5
      · rw [show meet (.mk k n l) (.mk k' n' l') = .mk k n l from by simp [meet, h, h']]; exact below_refl _
      · simp only [agree, h, h', if_false, Bool.and_eq_true, decide_eq_true_eq] at hg
        obtain ⟨⟨h1, h2⟩, h3⟩ := hg
        subst h1 h2
        rw [meet_alike h, below_iff]
        exact .inr ⟨rfl, rfl, meets_below l l' (right_node ha).2.1 (right_node hb).2.1 (kids_len ha hb) h3⟩
theorem meets_below : ∀ a b : List T, rights a = true → rights b = true → a.length = b.length → agrees a b = true → belows (meets a b) a = true
  | [], [], _, _, _, _ => rfl
  | a :: r, b :: s, ha, hb, hl, hg => by
    simp only [agrees, Bool.and_eq_true] at hg
    simp only [meets, belows, Bool.and_eq_true]
    exact ⟨meet_below a b (rights_cons ha).1 (rights_cons hb).1 hg.1, meets_below r s (rights_cons ha).2 (rights_cons hb).2 (by simpa using hl) hg.2⟩
end
mutual
/-- What is below two closed types is below their meet, and they agree. -/
theorem below_both : ∀ c a b : T, right c = true → right a = true → right b = true → without 6 a = true → without 6 b = true → below c a = true → below c b = true → agree a b = true ∧ below c (meet a b) = true
  | .mk k2 n2 l2, .mk k n l, .mk k' n' l', hc, ha, hb, wa, wb, h1, h2 => by
    by_cases h : k = 5
    · rw [show meet (.mk k n l) (.mk k' n' l') = .mk k' n' l' from by simp [meet, h]]
      exact ⟨by simp [agree, h, wb], h2⟩
    · by_cases h' : k' = 5
      · rw [show meet (.mk k n l) (.mk k' n' l') = .mk k n l from by simp [meet, h, h']]
        exact ⟨by simp only [agree, h, h', if_true, if_false]; exact wa, h1⟩
      · rw [below_iff] at h1 h2
        obtain ⟨e1, e2, e3⟩ := h1.resolve_left h
        obtain ⟨f1, f2, f3⟩ := h2.resolve_left h'
        subst e1 e2 f1 f2
        simp only [without, Bool.and_eq_true] at wa wb
        obtain ⟨i1, i2⟩ := belows_both l2 l l' (right_node hc).2.1 (right_node ha).2.1 (right_node hb).2.1 (kids_len hc ha) (kids_len hc hb) wa.2 wb.2 e3 f3
        rw [meet_alike h, agree_alike h, below_iff]
        exact ⟨i1, .inr ⟨rfl, rfl, i2⟩⟩
theorem belows_both : ∀ c a b : List T, rights c = true → rights a = true → rights b = true → c.length = a.length → c.length = b.length → withouts 6 a = true → withouts 6 b = true → belows c a = true → belows c b = true → agrees a b = true ∧ belows c (meets a b) = true
  | [], [], [], _, _, _, _, _, _, _, _, _ => ⟨rfl, rfl⟩
  | c :: q, a :: r, b :: s, hc, ha, hb, l1, l2, wa, wb, h1, h2 => by
    simp only [belows, withouts, Bool.and_eq_true] at h1 h2 wa wb
    obtain ⟨i1, i2⟩ := below_both c a b (rights_cons hc).1 (rights_cons ha).1 (rights_cons hb).1 wa.1 wb.1 h1.1 h2.1
    obtain ⟨j1, j2⟩ := belows_both q r s (rights_cons hc).2 (rights_cons ha).2 (rights_cons hb).2 (by simpa using l1) (by simpa using l2) wa.2 wb.2 h1.2 h2.2
    simp only [agrees, meets, belows, Bool.and_eq_true]
    exact ⟨⟨i1, j1⟩, i2, j2⟩
end
/-- Below, as the program answers. -/
def bl (a b : T) : Bool := right a && right b && below a b
/-- Does a type have a ground, and which. -/
def hasG (t : T) : Bool := right t && !decide (t.kind = 5) && !decide (t.kind = 6)
def dyns (n : Nat) : List T := List.replicate n (.mk 5 0 [])
def gnd (t : T) : T := .mk t.kind 0 (dyns t.kids.length)
def grd (t : T) : T := if hasG t = true then gnd t else .mk 0 0 []
theorem rights_dyns : ∀ n, rights (dyns n) = true
  | 0 => rfl
  | n + 1 => by
    have := rights_dyns n
    simp only [dyns, List.replicate_succ, rights] at this ⊢
    rw [this]; rfl
theorem sizes_dyns : ∀ n, sizes (dyns n) = n
  | 0 => rfl
  | n + 1 => by
    have := sizes_dyns n
    simp only [dyns, List.replicate_succ, sizes] at this ⊢
    rw [this]; simp [size, sizes]; omega
theorem belows_dyns : ∀ (l : List T) (n : Nat), belows l (dyns n) = true
  | [], _ => by simp [belows]
  | a :: r, 0 => by simp [dyns, belows]
  | a :: r, n + 1 => by
    have h1 := belows_dyns r n
    simp only [dyns, List.replicate_succ, belows] at h1 ⊢
    rw [below_dyn, h1]; rfl
theorem dyns_len (n : Nat) : (dyns n).length = n := by simp [dyns]
theorem gnd_right {t : T} (h : hasG t = true) : right (gnd t) = true := by
  cases t with
  | mk k n l =>
    simp only [hasG, Bool.and_eq_true, Bool.not_eq_true', T.kind] at h
    obtain ⟨⟨h1, h2⟩, h3⟩ := h
    obtain ⟨q1, q2, q3, q4, q5⟩ := right_node h1
    simp only [gnd, right, T.kind, T.kids, rights_dyns, Bool.and_true, dyns_len]
    simp only [right, nodeRight, Bool.and_eq_true, decide_eq_true_eq, Bool.or_eq_true] at h1 ⊢
    exact ⟨⟨⟨q1, by omega⟩, by omega⟩, .inr trivial⟩
theorem gnd_below {t u : T} (h : hasG t = true) (h' : hasG u = true) : below t (gnd u) = decide (t.kind = u.kind) := by
  cases t with
  | mk k n l =>
    cases u with
    | mk k' n' l' =>
      simp only [hasG, Bool.and_eq_true, Bool.not_eq_true', T.kind] at h h'
      obtain ⟨q1, q2, q3, q4, q5⟩ := right_node h.1.1
      simp only [gnd, T.kind, T.kids, below, belows_dyns, Bool.and_true]
      rw [q5 (of_decide_eq_false h.2)]
      simp [of_decide_eq_false h'.1.2]; rfl
theorem gnd_size (t : T) : size (gnd t) ≤ size t := by
  cases t with
  | mk k n l => simp only [gnd, T.kind, T.kids, size, sizes_dyns]; have := length_le_sizes l; omega
theorem gnd_has {t : T} (h : hasG t = true) : hasG (gnd t) = true := by
  have h1 := gnd_right h
  cases t with
  | mk k n l =>
    simp only [hasG, Bool.and_eq_true] at h ⊢
    exact ⟨⟨h1, h.1.2⟩, h.2⟩
theorem gnd_gnd (t : T) : gnd (gnd t) = gnd t := by
  cases t; simp [gnd, T.kind, T.kids, dyns_len]
theorem gnd_same {t u : T} (h : hasG t = true) (h' : hasG u = true) : same (gnd t) (gnd u) = decide (t.kind = u.kind) := by
  by_cases hk : t.kind = u.kind
  · have hl : t.kids.length = u.kids.length := by
      cases t; cases u
      simp only [hasG, Bool.and_eq_true] at h h'
      simp only [T.kind] at hk
      subst hk
      exact kids_len h.1.1 h'.1.1
    have he : gnd t = gnd u := by unfold gnd; rw [hk, hl]
    rw [he, same_refl, decide_eq_true hk]
  · rw [decide_eq_false hk]
    simp [gnd, same, hk]
theorem dyns_agree : ∀ n m, agrees (dyns n) (dyns m) = true
  | 0, _ => by simp [dyns, agrees]
  | n + 1, 0 => by simp [dyns, agrees]
  | n + 1, m + 1 => by
    have h1 := dyns_agree n m
    simp only [dyns, List.replicate_succ, agrees] at h1 ⊢
    rw [h1]; rfl
theorem gnd_agree {t u : T} (h : hasG t = true) (h' : hasG u = true) : agree (gnd t) (gnd u) = decide (t.kind = u.kind) := by
  simp only [hasG, Bool.and_eq_true, Bool.not_eq_true', decide_eq_false_iff_not] at h h'
  simp only [gnd, agree, h.1.2, h'.1.2, if_false, dyns_agree, Bool.and_true, decide_true]
end Go.Proofs.Ytncdbbjkafgphaa.Tp
