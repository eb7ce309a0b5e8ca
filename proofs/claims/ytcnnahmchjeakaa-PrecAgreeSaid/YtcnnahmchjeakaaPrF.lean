/- The law's fill, plainly. -/
import Derived.Test.YtcnnahmchjeakaaPrT
namespace Go.Proofs.Ytcnnahmchjeakaa.Tp
mutual
/-- One type with another one's parts where it has a ?. -/
def fill : T → T → T
  | .mk k n l, .mk k' n' l' => if k = 5 then .mk k' n' l' else .mk k n (if k = k' then fills l l' else l)
def fills : List T → List T → List T
  | a :: r, b :: s => fill a b :: fills r s
  | _, _ => []
end
theorem fills_length : ∀ a b : List T, a.length = b.length → (fills a b).length = a.length
  | [], [], _ => rfl
  | a :: r, b :: s, h => by simp only [fills, List.length_cons, fills_length r s (by simpa using h)]
theorem fill_dyn {t u : T} (h : t.kind = 5) : fill t u = u := by cases t; cases u; simp only [T.kind] at h; simp [fill, h]
theorem fill_eq {t u : T} (h : ¬ t.kind = 5) (h' : t.kind = u.kind) : fill t u = .mk t.kind t.num (fills t.kids u.kids) := by cases t; cases u; simp only [T.kind] at h h'; simp [fill, h', T.kind, T.num, T.kids]; omega
theorem fill_ne {t u : T} (h : ¬ t.kind = 5) (h' : ¬ t.kind = u.kind) : fill t u = t := by cases t; cases u; simp only [T.kind] at h h'; simp [fill, h, h']
theorem fills_append : ∀ (a b c d : List T), a.length = c.length → fills (a ++ b) (c ++ d) = fills a c ++ fills b d
  | [], b, [], d, _ => by simp [fills]
  | [], b, y :: s, d, h => by simp at h
  | x :: r, b, [], d, h => by simp at h
  | x :: r, b, y :: s, d, h => by simp only [List.cons_append, fills, fills_append r b s d (by simpa using h)]
theorem fills_take (l m : List T) (k : Nat) (h : k < l.length) (h' : k < m.length) : fills (l.take (k + 1)) (m.take (k + 1)) = fills (l.take k) (m.take k) ++ [fill l[k] m[k]] := by
  rw [List.take_succ_eq_append_getElem h, List.take_succ_eq_append_getElem h', fills_append _ _ _ _ (by simp; omega)]; simp [fills]
mutual
theorem fill_facts : ∀ a b : T, right a = true → right b = true → without 6 a = true → without 6 b = true → right (fill a b) = true ∧ below (fill a b) a = true ∧ below (fill a b) b = agree a b
  | .mk k n l, .mk k' n' l', ha, hb, wa, wb => by
    by_cases h : k = 5
    · rw [fill_dyn (show (T.mk k n l).kind = 5 from h)]
      refine ⟨hb, by rw [below_iff]; exact .inl h, ?_⟩
      rw [below_refl]; simp only [agree, h, if_true]; exact wb.symm
    · by_cases hk : k = k'
      · subst hk
        rw [show fill (.mk k n l) (.mk k n' l') = .mk k n (fills l l') from by simp [fill, h]]
        simp only [without, Bool.and_eq_true] at wa wb
        obtain ⟨i1, i2, i3⟩ := fills_facts l l' (right_node ha).2.1 (right_node hb).2.1 (kids_len ha hb) wa.2 wb.2
        refine ⟨?_, below_iff.2 (.inr ⟨rfl, rfl, i2⟩), ?_⟩
        · simp only [right, fills_length l l' (kids_len ha hb), i1, Bool.and_true] at ha ⊢
          exact (Bool.and_eq_true _ _ ▸ ha).1
        · simp only [below, agree, h, if_false, i3, decide_false, Bool.false_or]
      · rw [show fill (.mk k n l) (.mk k' n' l') = .mk k n l from by simp [fill, h, hk]]
        refine ⟨ha, below_refl _, ?_⟩
        by_cases h' : k' = 5
        · simp only [below, agree, h, h', if_true, if_false]
          rw [wa]; simp
        · simp only [below, agree, h, h', hk, if_false, decide_false, Bool.false_and, Bool.false_or]
theorem fills_facts : ∀ a b : List T, rights a = true → rights b = true → a.length = b.length → withouts 6 a = true → withouts 6 b = true → rights (fills a b) = true ∧ belows (fills a b) a = true ∧ belows (fills a b) b = agrees a b
  | [], [], _, _, _, _, _ => ⟨rfl, rfl, rfl⟩
  | a :: r, b :: s, ha, hb, hl, wa, wb => by
    simp only [withouts, Bool.and_eq_true] at wa wb
    obtain ⟨i1, i2, i3⟩ := fill_facts a b (rights_cons ha).1 (rights_cons hb).1 wa.1 wb.1
    obtain ⟨j1, j2, j3⟩ := fills_facts r s (rights_cons ha).2 (rights_cons hb).2 (by simpa using hl) wa.2 wb.2
    simp only [fills, rights, belows, agrees, i1, i2, i3, j1, j2, j3]
    exact ⟨rfl, rfl, trivial⟩
end
end Go.Proofs.Ytcnnahmchjeakaa.Tp
