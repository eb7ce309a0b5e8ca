/- The consequences for the three subtype relations, plainly. -/
import Derived.Test.YtafekidkikfpcaaSbP
namespace Go.Proofs.Ytafekidkikfpcaa.Tp
theorem sz2 (k : Int) (x y : T) : size (.mk k 0 [x, y]) = size x + size y + 1 := by simp [size, sizes]
theorem sz1 (k : Int) (x : T) : size (.mk k 0 [x]) = size x + 1 := by simp [size, sizes]
/-- A subtype is a positive and a negative one. -/
theorem sd_both : ∀ (N : Nat) (a b : T), size a + size b ≤ N → right a = true → right b = true → sd .s a b = (sd .p a b && sd .n a b) := by
  intro N
  induction N with
  | zero => intro a b h; have := size_pos a; omega
  | succ N ih =>
    intro a b hN ha hb
    by_cases hb5 : b.kind = 5
    · obtain ⟨h1, h2, h3⟩ := sd_dyn ha hb hb5
      rw [h1, h2, h3]; rfl
    · by_cases ha5 : a.kind = 5
      · obtain ⟨h1, h2, h3⟩ := sd_dynl ha ha5 hb5
        rw [h1, h2, h3]; rfl
      · by_cases hk : a.kind = b.kind
        · rcases two_shape ha hb hk with ⟨k, n, n', _, _, _, rfl, rfl⟩ | ⟨x, y, rfl, rfl, hx, hy⟩ | ⟨x1, x2, y1, y2, rfl, rfl, hx1, hx2, hy1, hy2⟩ | ⟨x1, x2, y1, y2, rfl, rfl, hx1, hx2, hy1, hy2⟩
          · rw [sd_leaf ha5, sd_leaf ha5, sd_leaf ha5, Bool.and_self]
          · rw [sd_list, sd_list, sd_list]
            rw [sz1, sz1] at hN
            exact ih x y (by omega) hx hy
          · rw [sz2, sz2] at hN
            rw [sd_pair, sd_pair, sd_pair, ih x1 y1 (by omega) hx1 hy1, ih x2 y2 (by omega) hx2 hy2]
            cases sd .p x1 y1 <;> cases sd .n x1 y1 <;> cases sd .p x2 y2 <;> cases sd .n x2 y2 <;> rfl
          · rw [sz2, sz2] at hN
            rw [sd_fun, sd_fun, sd_fun]
            simp only [Md.flip]
            rw [ih y1 x1 (by omega) hy1 hx1, ih x2 y2 (by omega) hx2 hy2]
            cases sd .p y1 x1 <;> cases sd .n y1 x1 <;> cases sd .p x2 y2 <;> cases sd .n x2 y2 <;> rfl
        · rw [sd_ne ha5 hb5 hk, sd_ne ha5 hb5 hk]; rfl
/-- A type is below another one just if it is a positive subtype of it, and that one a negative one of it. -/
theorem sd_below : ∀ (N : Nat) (a b : T), size a + size b ≤ N → right a = true → right b = true → below a b = (sd .p a b && sd .n b a) := by
  intro N
  induction N with
  | zero => intro a b h; have := size_pos a; omega
  | succ N ih =>
    intro a b hN ha hb
    by_cases hb5 : b.kind = 5
    · have h1 := (sd_dyn ha hb hb5).1
      have h2 : sd .n b a = true := by
        by_cases ha5 : a.kind = 5
        · rw [(sd_dyn hb ha ha5).2.1, dsub_dyn hb5]
        · exact (sd_dynl hb hb5 ha5).2.1
      have h3 : below a b = true := by
        cases a; cases b
        simp only [T.kind] at hb5
        rw [below_iff]; exact .inl hb5
      rw [h1, h2, h3]; rfl
    · by_cases hk : a.kind = b.kind
      · have ha5 : ¬ a.kind = 5 := by rw [hk]; exact hb5
        rcases two_shape ha hb hk with ⟨k, n, n', _, _, _, rfl, rfl⟩ | ⟨x, y, rfl, rfl, hx, hy⟩ | ⟨x1, x2, y1, y2, rfl, rfl, hx1, hx2, hy1, hy2⟩ | ⟨x1, x2, y1, y2, rfl, rfl, hx1, hx2, hy1, hy2⟩
        · rw [sd_leaf ha5, sd_leaf (show ¬ (T.mk k n' []).kind = 5 from ha5)]
          simp only [T.kind] at ha5
          simp only [below, belows, decide_true, Bool.true_and, Bool.and_true]
          by_cases h : n = n'
          · simp [h]
          · have h' : ¬ n' = n := fun h2 => h h2.symm
            simp [h, h', ha5]
        · rw [sd_list, sd_list]
          rw [sz1, sz1] at hN
          rw [← ih x y (by omega) hx hy]
          simp [below, belows]
        · rw [sz2, sz2] at hN
          rw [sd_pair, sd_pair]
          have e : below (.mk 7 0 [x1, x2]) (.mk 7 0 [y1, y2]) = (below x1 y1 && below x2 y2) := by simp [below, belows]
          rw [e, ih x1 y1 (by omega) hx1 hy1, ih x2 y2 (by omega) hx2 hy2]
          cases sd .p x1 y1 <;> cases sd .n y1 x1 <;> cases sd .p x2 y2 <;> cases sd .n y2 x2 <;> rfl
        · rw [sz2, sz2] at hN
          rw [sd_fun, sd_fun]
          simp only [Md.flip]
          have e : below (.mk 9 0 [x1, x2]) (.mk 9 0 [y1, y2]) = (below x1 y1 && below x2 y2) := by simp [below, belows]
          rw [e, ih x1 y1 (by omega) hx1 hy1, ih x2 y2 (by omega) hx2 hy2]
          cases sd .p x1 y1 <;> cases sd .n y1 x1 <;> cases sd .p x2 y2 <;> cases sd .n y2 x2 <;> rfl
      · have h3 : below a b = false := by
          cases a; cases b
          simp only [T.kind] at hb5 hk
          simp [below, hb5, hk]
        rw [h3]
        by_cases ha5 : a.kind = 5
        · rw [(sd_dynl ha ha5 hb5).1]; rfl
        · rw [sd_ne ha5 hb5 hk]; rfl
theorem sd_refl : ∀ (N : Nat) (a : T), size a ≤ N → right a = true → ∀ m, sd m a a = true := by
  intro N
  induction N with
  | zero => intro a h; have := size_pos a; omega
  | succ N ih =>
    intro a hN ha m
    by_cases ha5 : a.kind = 5
    · obtain ⟨h1, h2, h3⟩ := sd_dyn ha ha ha5
      rw [dsub_dyn ha5] at h2 h3
      cases m <;> assumption
    · cases a with
      | mk k n l =>
        rcases right_shape ha with ⟨rfl, _⟩ | ⟨x, rfl, rfl, rfl, hx⟩ | ⟨x1, x2, rfl, rfl | rfl, rfl, hx1, hx2⟩
        · rw [sd_leaf ha5]; exact decide_eq_true rfl
        · rw [sd_list]; rw [sz1] at hN; exact ih x (by omega) hx m
        · rw [sd_pair]; rw [sz2] at hN; rw [ih x1 (by omega) hx1 m, ih x2 (by omega) hx2 m]; rfl
        · rw [sd_fun]; rw [sz2] at hN; rw [ih x1 (by omega) hx1 _, ih x2 (by omega) hx2 m]; rfl
theorem sub_anti : ∀ (N : Nat) (a b : T), size a + size b ≤ N → right a = true → right b = true → sd .s a b = true → sd .s b a = true → a = b := by
  intro N
  induction N with
  | zero => intro a b h; have := size_pos a; omega
  | succ N ih =>
    intro a b hN ha hb h1 h2
    by_cases hb5 : b.kind = 5
    · by_cases ha5 : a.kind = 5
      · cases a; cases b
        simp only [T.kind] at ha5 hb5
        subst ha5 hb5
        obtain ⟨rfl, rfl⟩ := right_dyn ha
        obtain ⟨rfl, rfl⟩ := right_dyn hb
        rfl
      · rw [(sd_dynl hb hb5 ha5).2.2] at h2; cases h2
    · by_cases ha5 : a.kind = 5
      · rw [(sd_dynl ha ha5 hb5).2.2] at h1; cases h1
      · by_cases hk : a.kind = b.kind
        · rcases two_shape ha hb hk with ⟨k, n, n', _, _, _, rfl, rfl⟩ | ⟨x, y, rfl, rfl, hx, hy⟩ | ⟨x1, x2, y1, y2, rfl, rfl, hx1, hx2, hy1, hy2⟩ | ⟨x1, x2, y1, y2, rfl, rfl, hx1, hx2, hy1, hy2⟩
          · rw [sd_leaf ha5] at h1
            rw [of_decide_eq_true h1]
          · rw [sd_list] at h1 h2
            rw [sz1, sz1] at hN
            rw [ih x y (by omega) hx hy h1 h2]
          · rw [sz2, sz2] at hN
            rw [sd_pair, Bool.and_eq_true] at h1 h2
            rw [ih x1 y1 (by omega) hx1 hy1 h1.1 h2.1, ih x2 y2 (by omega) hx2 hy2 h1.2 h2.2]
          · rw [sz2, sz2] at hN
            rw [sd_fun, Bool.and_eq_true] at h1 h2
            rw [ih x1 y1 (by omega) hx1 hy1 h2.1 h1.1, ih x2 y2 (by omega) hx2 hy2 h1.2 h2.2]
        · rw [sd_ne ha5 hb5 hk] at h1; cases h1
theorem dsub_list (x : T) : dsub (.mk 8 0 [x]) = dsub x := by
  conv => lhs; unfold dsub
  simp
theorem dsub_pair (x y : T) : dsub (.mk 7 0 [x, y]) = (dsub x && dsub y) := by
  conv => lhs; unfold dsub
  simp
theorem dsub_fun (x y : T) : dsub (.mk 9 0 [x, y]) = (decide (x.kind = 5) && dsub y) := by
  conv => lhs; unfold dsub
  simp
/-- What ? is a subtype of is ?. -/
theorem sub_top {a b : T} (ha : right a = true) (h5 : a.kind = 5) (h : sd .s a b = true) : b.kind = 5 := by
  by_cases hb5 : b.kind = 5
  · exact hb5
  · rw [(sd_dynl ha h5 hb5).2.2] at h; cases h
theorem sub_trans : ∀ (N : Nat) (a b c : T), size a + size b + size c ≤ N → right a = true → right b = true → right c = true → sd .s a b = true → sd .s b c = true → sd .s a c = true := by
  intro N
  induction N with
  | zero => intro a b c h; have := size_pos a; omega
  | succ N ih =>
    intro a b c hN ha hb hc h1 h2
    by_cases hb5 : b.kind = 5
    · have hc5 := sub_top hb hb5 h2
      rw [(sd_dyn ha hb hb5).2.2] at h1
      rw [(sd_dyn ha hc hc5).2.2]; exact h1
    · by_cases ha5 : a.kind = 5
      · exact absurd (sub_top ha ha5 h1) hb5
      · by_cases hk : a.kind = b.kind
        · by_cases hc5 : c.kind = 5
          · rw [(sd_dyn hb hc hc5).2.2] at h2
            rw [(sd_dyn ha hc hc5).2.2]
            rcases two_shape ha hb hk with ⟨k, n, n', _, _, _, rfl, rfl⟩ | ⟨x, y, rfl, rfl, hx, hy⟩ | ⟨x1, x2, y1, y2, rfl, rfl, hx1, hx2, hy1, hy2⟩ | ⟨x1, x2, y1, y2, rfl, rfl, hx1, hx2, hy1, hy2⟩
            · rw [sd_leaf ha5] at h1
              rw [of_decide_eq_true h1]; exact h2
            · rw [sd_list] at h1
              rw [dsub_list] at h2 ⊢
              rw [sz1, sz1] at hN
              have := ih x y c (by omega) hx hy hc h1 (by rw [(sd_dyn hy hc hc5).2.2]; exact h2)
              rwa [(sd_dyn hx hc hc5).2.2] at this
            · rw [sd_pair, Bool.and_eq_true] at h1
              rw [dsub_pair, Bool.and_eq_true] at h2 ⊢
              rw [sz2, sz2] at hN
              have i1 := ih x1 y1 c (by omega) hx1 hy1 hc h1.1 (by rw [(sd_dyn hy1 hc hc5).2.2]; exact h2.1)
              have i2 := ih x2 y2 c (by omega) hx2 hy2 hc h1.2 (by rw [(sd_dyn hy2 hc hc5).2.2]; exact h2.2)
              rw [(sd_dyn hx1 hc hc5).2.2] at i1
              rw [(sd_dyn hx2 hc hc5).2.2] at i2
              exact ⟨i1, i2⟩
            · rw [sd_fun, Bool.and_eq_true] at h1
              rw [dsub_fun, Bool.and_eq_true] at h2 ⊢
              rw [sz2, sz2] at hN
              have i2 := ih x2 y2 c (by omega) hx2 hy2 hc h1.2 (by rw [(sd_dyn hy2 hc hc5).2.2]; exact h2.2)
              rw [(sd_dyn hx2 hc hc5).2.2] at i2
              exact ⟨decide_eq_true (sub_top hy1 (of_decide_eq_true h2.1) h1.1), i2⟩
          · by_cases hk2 : b.kind = c.kind
            · rcases two_shape ha hb hk with ⟨k, n, n', q1, q2, q3, rfl, rfl⟩ | ⟨x, y, rfl, rfl, hx, hy⟩ | ⟨x1, x2, y1, y2, rfl, rfl, hx1, hx2, hy1, hy2⟩ | ⟨x1, x2, y1, y2, rfl, rfl, hx1, hx2, hy1, hy2⟩
              · rw [sd_leaf ha5] at h1
                rw [of_decide_eq_true h1]; exact h2
              · rcases two_shape hb hc hk2 with ⟨k, n, n', _, q, _, e, _⟩ | ⟨y', z, e, rfl, _, hz⟩ | ⟨y1, y2, z1, z2, e, _⟩ | ⟨y1, y2, z1, z2, e, _⟩
                · injection e with e1 e2 e3; cases e3
                · injection e with e1 e2 e3; injection e3 with e3; subst e3
                  rw [sd_list] at h1 h2 ⊢
                  rw [sz1, sz1, sz1] at hN
                  exact ih x y z (by omega) hx hy hz h1 h2
                · injection e with e1; omega
                · injection e with e1; omega
              · rcases two_shape hb hc hk2 with ⟨k, n, n', q, _, _, e, _⟩ | ⟨y', z, e, _⟩ | ⟨y1', y2', z1, z2, e, rfl, _, _, hz1, hz2⟩ | ⟨y1', y2', z1, z2, e, _⟩
                · injection e with e1 e2 e3; cases e3
                · injection e with e1; omega
                · injection e with e1 e2 e3; injection e3 with e3 e4; injection e4 with e4; subst e3 e4
                  rw [sd_pair, Bool.and_eq_true] at h1 h2 ⊢
                  rw [sz2, sz2, sz2] at hN
                  exact ⟨ih x1 y1 z1 (by omega) hx1 hy1 hz1 h1.1 h2.1, ih x2 y2 z2 (by omega) hx2 hy2 hz2 h1.2 h2.2⟩
                · injection e with e1; omega
              · rcases two_shape hb hc hk2 with ⟨k, n, n', _, _, q, e, _⟩ | ⟨y', z, e, _⟩ | ⟨y1', y2', z1, z2, e, _⟩ | ⟨y1', y2', z1, z2, e, rfl, _, _, hz1, hz2⟩
                · injection e with e1 e2 e3; cases e3
                · injection e with e1; omega
                · injection e with e1; omega
                · injection e with e1 e2 e3; injection e3 with e3 e4; injection e4 with e4; subst e3 e4
                  rw [sd_fun, Bool.and_eq_true] at h1 h2 ⊢
                  rw [sz2, sz2, sz2] at hN
                  exact ⟨ih z1 y1 x1 (by omega) hz1 hy1 hx1 h2.1 h1.1, ih x2 y2 z2 (by omega) hx2 hy2 hz2 h1.2 h2.2⟩
            · rw [sd_ne hb5 hc5 hk2] at h2; cases h2
        · rw [sd_ne ha5 hb5 hk] at h1; cases h1
/-- Of static types only the same are subtypes, on either side. -/
theorem sd_static : ∀ (N : Nat) (a b : T), size a + size b ≤ N → right a = true → right b = true → without 5 a = true → without 5 b = true → ∀ m, sd m a b = same a b := by
  intro N
  induction N with
  | zero => intro a b h; have := size_pos a; omega
  | succ N ih =>
    intro a b hN ha hb wa wb m
    have ha5 : ¬ a.kind = 5 := by cases a; simp only [without, Bool.and_eq_true, Bool.not_eq_true', decide_eq_false_iff_not] at wa; exact wa.1
    have hb5 : ¬ b.kind = 5 := by cases b; simp only [without, Bool.and_eq_true, Bool.not_eq_true', decide_eq_false_iff_not] at wb; exact wb.1
    by_cases hk : a.kind = b.kind
    · rcases two_shape ha hb hk with ⟨k, n, n', _, _, _, rfl, rfl⟩ | ⟨x, y, rfl, rfl, hx, hy⟩ | ⟨x1, x2, y1, y2, rfl, rfl, hx1, hx2, hy1, hy2⟩ | ⟨x1, x2, y1, y2, rfl, rfl, hx1, hx2, hy1, hy2⟩
      · rw [sd_leaf ha5]
        by_cases h : n = n' <;> simp [same, sames, h]
      · rw [sd_list]
        rw [sz1, sz1] at hN
        simp only [without, withouts, Bool.and_eq_true, and_true] at wa wb
        rw [ih x y (by omega) hx hy wa.2 wb.2 m]
        simp [same, sames]
      · rw [sd_pair]
        rw [sz2, sz2] at hN
        simp only [without, withouts, Bool.and_eq_true, and_true] at wa wb
        rw [ih x1 y1 (by omega) hx1 hy1 wa.2.1 wb.2.1 m, ih x2 y2 (by omega) hx2 hy2 wa.2.2 wb.2.2 m]
        simp [same, sames]
      · rw [sd_fun]
        rw [sz2, sz2] at hN
        simp only [without, withouts, Bool.and_eq_true, and_true] at wa wb
        rw [ih y1 x1 (by omega) hy1 hx1 wb.2.1 wa.2.1 _, ih x2 y2 (by omega) hx2 hy2 wa.2.2 wb.2.2 m, same_comm y1 x1]
        simp [same, sames]
    · rw [sd_ne ha5 hb5 hk]
      cases a; cases b
      simp only [T.kind] at hk
      simp [same, hk]
/-- What is a subtype on either side, and closed, agrees. -/
theorem sd_agree : ∀ (N : Nat) (a b : T), size a + size b ≤ N → right a = true → right b = true → without 6 a = true → without 6 b = true → ∀ m, sd m a b = true → agree a b = true := by
  intro N
  induction N with
  | zero => intro a b h; have := size_pos a; omega
  | succ N ih =>
    intro a b hN ha hb wa wb m h
    by_cases ha5 : a.kind = 5
    · cases a; cases b; simp only [T.kind] at ha5; simp only [agree, ha5, if_true]; exact wb
    · by_cases hb5 : b.kind = 5
      · cases a; cases b; simp only [T.kind] at ha5 hb5; simp only [agree, ha5, hb5, if_true, if_false]; exact wa
      · by_cases hk : a.kind = b.kind
        · rcases two_shape ha hb hk with ⟨k, n, n', _, _, _, rfl, rfl⟩ | ⟨x, y, rfl, rfl, hx, hy⟩ | ⟨x1, x2, y1, y2, rfl, rfl, hx1, hx2, hy1, hy2⟩ | ⟨x1, x2, y1, y2, rfl, rfl, hx1, hx2, hy1, hy2⟩
          · rw [sd_leaf ha5] at h
            rw [of_decide_eq_true h]
            exact agree_self _ (by rw [← of_decide_eq_true h]; exact ha)
          · rw [sd_list] at h
            rw [sz1, sz1] at hN
            simp only [without, withouts, Bool.and_eq_true, and_true] at wa wb
            have := ih x y (by omega) hx hy wa.2 wb.2 m h
            simp [agree, agrees, this]
          · rw [sd_pair, Bool.and_eq_true] at h
            rw [sz2, sz2] at hN
            simp only [without, withouts, Bool.and_eq_true, and_true] at wa wb
            have i1 := ih x1 y1 (by omega) hx1 hy1 wa.2.1 wb.2.1 m h.1
            have i2 := ih x2 y2 (by omega) hx2 hy2 wa.2.2 wb.2.2 m h.2
            simp [agree, agrees, i1, i2]
          · rw [sd_fun, Bool.and_eq_true] at h
            rw [sz2, sz2] at hN
            simp only [without, withouts, Bool.and_eq_true, and_true] at wa wb
            have i1 := ih y1 x1 (by omega) hy1 hx1 wb.2.1 wa.2.1 _ h.1
            rw [agree_comm y1 x1 hy1 hx1] at i1
            have i2 := ih x2 y2 (by omega) hx2 hy2 wa.2.2 wb.2.2 m h.2
            simp [agree, agrees, i1, i2]
        · rw [sd_ne ha5 hb5 hk] at h; cases h
end Go.Proofs.Ytafekidkikfpcaa.Tp
