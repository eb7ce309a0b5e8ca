/- What the page asks of two right types at stage 10: Side and Sub, plainly. -/
import Derived.Test.YtafekidkikfpcaaSbR
import Derived.Test.YtafekidkikfpcaaArP
namespace Go.Proofs.Ytafekidkikfpcaa
open Tp (T Md)

/-- Kid by kid. -/
def sds (m : Md) (l l' : List T) : Bool := (l.zip l').all fun q => Tp.sd m q.1 q.2
theorem sds_take (m : Md) (l l' : List T) (k : Nat) (h : k < l.length) (h' : k < l'.length) : sds m (l.take (k + 1)) (l'.take (k + 1)) = (sds m (l.take k) (l'.take k) && Tp.sd m l[k] l'[k]) := by
  unfold sds
  rw [List.take_succ_eq_append_getElem h, List.take_succ_eq_append_getElem h', List.zip_append (by simp; omega)]
  simp
theorem sds_get (m : Md) (l l' : List T) (k : Nat) (h : k < l.length) (h' : k < l'.length) (hf : Tp.sd m l[k] l'[k] = false) : sds m l l' = false := by
  have e : sds m (l.take (k + 1) ++ l.drop (k + 1)) (l'.take (k + 1) ++ l'.drop (k + 1)) = (sds m (l.take (k + 1)) (l'.take (k + 1)) && sds m (l.drop (k + 1)) (l'.drop (k + 1))) := by
    unfold sds; rw [List.zip_append (by simp; omega)]; simp
  rw [List.take_append_drop, List.take_append_drop, sds_take m l l' k h h', hf] at e
  simpa using e
/-- The same leaf. -/
theorem side_leaf {t u : T} (h : leafB t u = true) (ht : Tp.right t = true) (hu : Tp.right u = true) (m : Md) : Tp.sd m t u = true := by
  unfold leafB at h
  simp only [Bool.and_eq_true, decide_eq_true_eq] at h
  obtain ⟨⟨h1, h2⟩, h3⟩ := h
  have e : t = u := by
    cases t; cases u
    simp only [Tp.T.kids, Tp.T.kind, Tp.T.num] at h1 h2 h3
    subst h2 h3
    have hl := Tp.kids_len ht hu
    rename_i l l'
    have e1 : l = [] := List.eq_nil_of_length_eq_zero h1
    have e2 : l' = [] := List.eq_nil_of_length_eq_zero (by rw [← hl, h1])
    rw [e1, e2]
  subst e
  exact Tp.sd_refl _ t (Nat.le_refl _) ht m
theorem side_n {t u : T} (ht : Tp.right t = true) (hu : Tp.right u = true) (h : t.kind = 5) : Tp.sd .n t u = true := by
  by_cases h5 : u.kind = 5
  · rw [(Tp.sd_dyn ht hu h5).2.1, Tp.dsub_dyn h]
  · exact (Tp.sd_dynl ht h h5).2.1
theorem side_p {t u : T} (ht : Tp.right t = true) (hu : Tp.right u = true) (h : u.kind = 5) : Tp.sd .p t u = true := (Tp.sd_dyn ht hu h).1
/-- Neither a leaf nor alike, none of them a ? that settles it. -/
theorem side_no {t u : T} (ht : Tp.right t = true) (hu : Tp.right u = true) (h1 : leafB t u = false) (h2 : likeB t u = false) (m : Md) (hn : m = .n → ¬ t.kind = 5) (hu5 : ¬ u.kind = 5) : Tp.sd m t u = false := by
  by_cases ht5 : t.kind = 5
  · have := Tp.sd_dynl ht ht5 hu5
    cases m with
    | p => exact this.1
    | n => exact absurd ht5 (hn rfl)
    | s => exact this.2.2
  · by_cases hk : t.kind = u.kind
    · rcases Tp.two_shape ht hu hk with ⟨k, n, n', _, _, _, rfl, rfl⟩ | ⟨x, y, rfl, rfl, _⟩ | ⟨x1, x2, y1, y2, rfl, rfl, _⟩ | ⟨x1, x2, y1, y2, rfl, rfl, _⟩
      · rw [Tp.sd_leaf ht5]
        simp only [leafB, Tp.T.kids, Tp.T.kind, Tp.T.num] at h1
        by_cases h : n = n'
        · simp [h] at h1
        · exact decide_eq_false h
      · simp [likeB, Tp.T.kids, Tp.T.kind] at h2
      · simp [likeB, Tp.T.kids, Tp.T.kind] at h2
      · simp [likeB, Tp.T.kids, Tp.T.kind] at h2
    · exact Tp.sd_ne ht5 hu5 hk m
/-- Two pairs, lists or functions. -/
theorem side_like {t u : T} (ht : Tp.right t = true) (hu : Tp.right u = true) (h : likeB t u = true) : t.kids.length = u.kids.length ∧ (t.kind = 9 → ∃ x1 x2 y1 y2, t.kids = [x1, x2] ∧ u.kids = [y1, y2] ∧ ∀ m, Tp.sd m t u = (Tp.sd m.flip y1 x1 && Tp.sd m x2 y2)) ∧ (¬ t.kind = 9 → ∀ m, Tp.sd m t u = sds m t.kids u.kids) ∧ ¬ t.kind = 5 ∧ ¬ u.kind = 5 ∧ ¬ t.kind = 6 := by
  unfold likeB at h
  simp only [Bool.and_eq_true, decide_eq_true_eq] at h
  obtain ⟨h1, h2⟩ := h
  rcases Tp.two_shape ht hu h2 with ⟨k, n, n', _, _, _, rfl, rfl⟩ | ⟨x, y, rfl, rfl, _⟩ | ⟨x1, x2, y1, y2, rfl, rfl, _⟩ | ⟨x1, x2, y1, y2, rfl, rfl, _⟩
  · simp [Tp.T.kids] at h1
  · refine ⟨rfl, fun h => ?_, fun _ m => ?_, ?_, ?_, ?_⟩
    · simp [Tp.T.kind] at h
    · rw [Tp.sd_list]; simp [sds, Tp.T.kids]
    all_goals simp [Tp.T.kind]
  · refine ⟨rfl, fun h => ?_, fun _ m => ?_, ?_, ?_, ?_⟩
    · simp [Tp.T.kind] at h
    · rw [Tp.sd_pair]; simp [sds, Tp.T.kids]
    all_goals simp [Tp.T.kind]
  · refine ⟨rfl, fun _ => ⟨x1, x2, y1, y2, rfl, rfl, fun m => Tp.sd_fun m x1 x2 y1 y2⟩, fun h => ?_, ?_, ?_, ?_⟩
    · simp [Tp.T.kind] at h
    all_goals simp [Tp.T.kind]
/-- A ? on the right, by the ground. -/
theorem side_gnd {t u : T} (ht : Tp.right t = true) (hu : Tp.right u = true) (ht5 : ¬ t.kind = 5) (hu5 : u.kind = 5) (m : Md) (hm : m ≠ .p) : Tp.sd m t u = (Tp.hasG t && (decide (t.kids.length = 0) || Tp.sd m t (Tp.gnd t))) := by
  have e : Tp.sd m t u = Tp.dsub t := by
    have h := Tp.sd_dyn ht hu hu5
    cases m with
    | p => exact absurd rfl hm
    | n => exact h.2.1
    | s => exact h.2.2
  rw [e]
  have hq : Tp.right (.mk 5 0 []) = true := Tp.right_q
  cases t with
  | mk k n l =>
    simp only [Tp.T.kind] at ht5
    have hG : Tp.hasG (.mk k n l) = !decide (k = 6) := by unfold Tp.hasG; rw [ht]; simp [Tp.T.kind, ht5]; rfl
    rw [hG]
    rcases Tp.right_shape ht with ⟨rfl, _⟩ | ⟨x, rfl, rfl, rfl, hx⟩ | ⟨x1, x2, rfl, rfl | rfl, rfl, hx1, hx2⟩
    · unfold Tp.dsub
      by_cases h6 : k = 6 <;> simp [ht5, h6, Tp.T.kids]
    · rw [Tp.dsub_list]
      have : Tp.gnd (.mk 8 0 [x]) = .mk 8 0 [.mk 5 0 []] := rfl
      rw [this, Tp.sd_list]
      have h := Tp.sd_dyn hx hq rfl
      cases m with
      | p => exact absurd rfl hm
      | n => rw [h.2.1]; simp [Tp.T.kids]
      | s => rw [h.2.2]; simp [Tp.T.kids]
    · rw [Tp.dsub_pair]
      have : Tp.gnd (.mk 7 0 [x1, x2]) = .mk 7 0 [.mk 5 0 [], .mk 5 0 []] := rfl
      rw [this, Tp.sd_pair]
      have h1 := Tp.sd_dyn hx1 hq rfl
      have h2 := Tp.sd_dyn hx2 hq rfl
      cases m with
      | p => exact absurd rfl hm
      | n => rw [h1.2.1, h2.2.1]; simp [Tp.T.kids]
      | s => rw [h1.2.2, h2.2.2]; simp [Tp.T.kids]
    · rw [Tp.dsub_fun]
      have : Tp.gnd (.mk 9 0 [x1, x2]) = .mk 9 0 [.mk 5 0 [], .mk 5 0 []] := rfl
      rw [this, Tp.sd_fun]
      have h2 := Tp.sd_dyn hx2 hq rfl
      have h1 : ∀ m', m' ≠ .n → Tp.sd m' (.mk 5 0 []) x1 = decide (x1.kind = 5) := fun m' hm' => by
        by_cases h5 : x1.kind = 5
        · rw [decide_eq_true h5]
          have := Tp.sd_dyn hq hx1 h5
          cases m' with
          | p => exact this.1
          | n => exact absurd rfl hm'
          | s => rw [this.2.2]; exact Tp.dsub_dyn rfl
        · rw [decide_eq_false h5]
          have := Tp.sd_dynl hq rfl h5
          cases m' with
          | p => exact this.1
          | n => exact absurd rfl hm'
          | s => exact this.2.2
      cases m with
      | p => exact absurd rfl hm
      | n => rw [h2.2.1, Md.flip, h1 _ (by intro h; cases h)]; simp [Tp.T.kids]
      | s => rw [h2.2.2, Md.flip, h1 _ (by intro h; cases h)]; simp [Tp.T.kids]
end Go.Proofs.Ytafekidkikfpcaa
