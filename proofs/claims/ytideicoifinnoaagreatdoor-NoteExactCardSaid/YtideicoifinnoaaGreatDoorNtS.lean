/- Plain facts for the laws: no two types have one text; what begins as a type and ends; how long a text is. -/
import Derived.Test.YtideicoifinnoaaGreatDoorNtR
namespace Go.Proofs.YtideicoifinnoaaGreatDoor
open Tp (T)
namespace Nt

/-- How long the text of a closed type is. -/
theorem text_small : ∀ (n : Nat) (t : T), Tp.size t ≤ n → Tp.right t = true → Tp.without 6 t = true → (text t).length + 2 ≤ 8 * Tp.size t
  | 0, t, h, _, _ => by have := Tp.size_pos t; omega
  | n + 1, t, hn, hr, hc => by
    have hin : ∀ x : T, (inner x).length ≤ (text x).length + 2 := fun x => paren_len _ _
    rcases (right_cases t hr).2 with h0 | ⟨m, x, rfl, hx⟩ | ⟨k, m, x, y, hk, rfl, hx, hy⟩
    · obtain ⟨k, e1, -⟩ := leaf_cases t hr hc h0
      subst e1
      unfold leaf at hc ⊢
      simp only [Tp.without, Bool.and_eq_true, Bool.not_eq_true', decide_eq_false_iff_not] at hc
      rw [text_leaf]
      have h6 : (k : Int) ≠ 6 := hc.1
      simp only [Tp.size, Tp.sizes]
      unfold leafTx sInt sBool sStr sUnit sDyn
      rw [if_neg h6]
      repeat' split
      all_goals simp
    · simp only [Tp.size, Tp.sizes] at hn ⊢
      simp only [Tp.without, Tp.withouts, Bool.and_eq_true] at hc
      have ih := text_small n x (by omega) hx hc.2.1
      have := hin x
      rw [text_one, List.length_append]
      have : sList.length = 5 := rfl
      omega
    · simp only [Tp.size, Tp.sizes] at hn ⊢
      simp only [Tp.without, Tp.withouts, Bool.and_eq_true] at hc
      have i1 := text_small n x (by omega) hx hc.2.1
      have i2 := text_small n y (by omega) hy hc.2.2.1
      have := hin x
      have := hin y
      have := sep_len k
      rw [text_two, List.length_append, List.length_append]
      omega

/-- What does not go on a number. -/
def NoDig (r : List UInt8) : Prop := ∀ c, r.head? = some c → ¬ (48 ≤ c.toNat ∧ c.toNat ≤ 57)
theorem noDig_cons {c : UInt8} {r : List UInt8} (h : ¬ (48 ≤ c.toNat ∧ c.toNat ≤ 57)) : NoDig (c :: r) := fun x hx => by simp at hx; subst hx; exact h
theorem noDig_nil : NoDig [] := fun x hx => by simp at hx
theorem digs_unique : ∀ (a b r s : List UInt8), (∀ c ∈ a, 48 ≤ c.toNat ∧ c.toNat ≤ 57) → (∀ c ∈ b, 48 ≤ c.toNat ∧ c.toNat ≤ 57) → NoDig r → NoDig s → a ++ r = b ++ s → a = b ∧ r = s
  | [], [], r, s, _, _, _, _, h => ⟨rfl, h⟩
  | [], c :: b, r, s, _, hb, hr, _, h => by
    simp only [List.nil_append, List.cons_append] at h
    exact absurd (hb c (List.mem_cons_self ..)) (hr c (by rw [h]; rfl))
  | c :: a, [], r, s, ha, _, _, hs, h => by
    simp only [List.nil_append, List.cons_append] at h
    exact absurd (ha c (List.mem_cons_self ..)) (hs c (by rw [← h]; rfl))
  | c :: a, d :: b, r, s, ha, hb, hr, hs, h => by
    simp only [List.cons_append, List.cons.injEq] at h
    obtain ⟨rfl, h⟩ := h
    obtain ⟨rfl, h2⟩ := digs_unique a b r s (fun x hx => ha x (List.mem_cons_of_mem _ hx)) (fun x hx => hb x (List.mem_cons_of_mem _ hx)) hr hs h
    exact ⟨rfl, h2⟩
theorem num_unique {n m : Int} (hn : 0 ≤ n ∧ n ≤ 1048576) (hm : 0 ≤ m ∧ m ≤ 1048576) {r s : List UInt8} (hr : NoDig r) (hs : NoDig s) (h : Wd.num n ++ r = Wd.num m ++ s) : n = m ∧ r = s := by
  have e1 := (Wd.num_pos (n := n) (by omega)).1
  have e2 := (Wd.num_pos (n := m) (by omega)).1
  rw [e1, e2] at h
  obtain ⟨h1, h2⟩ := digs_unique _ _ r s (Wd.dec_digit _) (Wd.dec_digit _) hr hs h
  exact ⟨Wd.num_inj n m (by unfold Wd.inI64; omega) (by unfold Wd.inI64; omega) (by rw [e1, e2, h1]), h2⟩
/-- A right leaf: its kind. -/
theorem right_leaf {k n : Int} (hr : Tp.right (.mk k n []) = true) : (k = 1 ∧ n = 0 ∨ k = 2 ∧ n = 0 ∨ k = 3 ∧ n = 0 ∨ k = 4 ∧ n = 0 ∨ k = 5 ∧ n = 0) ∨ (k = 6 ∧ 0 ≤ n ∧ n ≤ 1048576) := by
  simp only [Tp.right, Tp.nodeRight, Bool.and_eq_true, Bool.or_eq_true, decide_eq_true_eq, List.length_nil] at hr
  obtain ⟨⟨⟨⟨h1, h2⟩, h3⟩, hm⟩, _⟩ := hr
  have h1' : Tp.arity k = 0 := by simpa using h1
  unfold Tp.arity at h1'
  clear h1
  by_cases h7 : k = 1 ∨ k = 2 ∨ k = 3 ∨ k = 4 ∨ k = 5 ∨ k = 6
  · omega
  · rw [if_neg h7] at h1'
    by_cases h8 : k = 8
    · rw [if_pos h8] at h1'; cases h1'
    · rw [if_neg h8] at h1'
      by_cases h9 : k = 7 ∨ k = 9
      · rw [if_pos h9] at h1'; cases h1'
      · rw [if_neg h9] at h1'; cases h1'
theorem leaf_unique {k n k' n' : Int} (h : Tp.right (.mk k n []) = true) (h' : Tp.right (.mk k' n' []) = true) {r s : List UInt8} (hr : NoDig r) (hs : NoDig s) (e : leafTx k n ++ r = leafTx k' n' ++ s) : k = k' ∧ n = n' ∧ r = s := by
  rcases right_leaf h with (⟨rfl, rfl⟩ | ⟨rfl, rfl⟩ | ⟨rfl, rfl⟩ | ⟨rfl, rfl⟩ | ⟨rfl, rfl⟩) | ⟨rfl, hn⟩ <;> rcases right_leaf h' with (⟨rfl, rfl⟩ | ⟨rfl, rfl⟩ | ⟨rfl, rfl⟩ | ⟨rfl, rfl⟩ | ⟨rfl, rfl⟩) | ⟨rfl, hn'⟩ <;>
    simp [leafTx, sInt, sBool, sStr, sUnit, sDyn] at e <;> first
      | exact ⟨rfl, rfl, e⟩
      | (obtain ⟨e1, e2⟩ := num_unique hn hn' hr hs e; exact ⟨rfl, e1, e2⟩)
theorem leafTx_head {k n : Int} (h : Tp.right (.mk k n []) = true) : ∃ c l, leafTx k n = c :: l ∧ c ≠ 40 := by
  rcases right_leaf h with (⟨rfl, rfl⟩ | ⟨rfl, rfl⟩ | ⟨rfl, rfl⟩ | ⟨rfl, rfl⟩ | ⟨rfl, rfl⟩) | ⟨rfl, hn⟩ <;> exact ⟨_, _, rfl, by decide⟩
theorem num_zero {k n : Int} {l : List T} (hk : k ≠ 6) (h : Tp.right (.mk k n l) = true) : n = 0 := by
  simp only [Tp.right, Tp.nodeRight, Bool.and_eq_true, Bool.or_eq_true, decide_eq_true_eq] at h
  exact h.1.2.resolve_left hk
/-- How a right type is built. -/
inductive View : T → Prop where
  | leaf (k n : Int) : Tp.right (.mk k n []) = true → View (.mk k n [])
  | list (x : T) : Tp.right x = true → View (.mk 8 0 [x])
  | two (k : Int) (x y : T) : (k = 7 ∨ k = 9) → Tp.right x = true → Tp.right y = true → View (.mk k 0 [x, y])
theorem view (t : T) (hr : Tp.right t = true) : View t := by
  rcases (right_cases t hr).2 with h0 | ⟨m, x, rfl, hx⟩ | ⟨k, m, x, y, hk, rfl, hx, hy⟩
  · obtain ⟨k, n, l⟩ := t
    simp only [Tp.T.kids] at h0
    subst h0
    exact .leaf k n hr
  · obtain rfl := num_zero (by decide) hr
    exact .list x hx
  · obtain rfl := num_zero (by omega) hr
    exact .two k x y hk hx hy
theorem inner_leaf0 (k n : Int) : inner (.mk k n []) = leafTx k n := by rw [inner, text_leaf]; rfl
theorem inner_list (x : T) : inner (.mk 8 0 [x]) = 40 :: (text (.mk 8 0 [x]) ++ [41]) := rfl
theorem inner_two (k : Int) (x y : T) : inner (.mk k 0 [x, y]) = 40 :: (text (.mk k 0 [x, y]) ++ [41]) := rfl
theorem inner_leaf {k n : Int} (ht : Tp.right (.mk k n []) = true) {u : T} (hu : Tp.right u = true) {r s : List UInt8} (hr : NoDig r) (hs : NoDig s) (e : leafTx k n ++ r = inner u ++ s) : T.mk k n [] = u ∧ r = s := by
  obtain ⟨c, l, h1, h2⟩ := leafTx_head ht
  cases view u hu with
  | leaf k' n' _ =>
    rw [inner_leaf0] at e
    obtain ⟨rfl, rfl, h3⟩ := leaf_unique ht hu hr hs e
    exact ⟨rfl, h3⟩
  | list x _ =>
    rw [inner_list, h1] at e
    simp only [List.cons_append, List.cons.injEq] at e
    exact absurd e.1 h2
  | two k' x y _ _ _ =>
    rw [inner_two, h1] at e
    simp only [List.cons_append, List.cons.injEq] at e
    exact absurd e.1 h2
/-- What stands behind a whole text. -/
def EndB (r : List UInt8) : Prop := r = [] ∨ ∃ r', r = 41 :: r'
theorem EndB.noDig {r : List UInt8} (h : EndB r) : NoDig r := by
  rcases h with rfl | ⟨r', rfl⟩
  · exact noDig_nil
  · exact noDig_cons (by decide)
theorem EndB.no {r s : List UInt8} (h : EndB r) (e : r = 32 :: s) : False := by
  rcases h with rfl | ⟨r', rfl⟩
  · cases e
  · simp at e
theorem sep_form {k : Int} (hk : k = 7 ∨ k = 9) : ∃ c l, sep k = 32 :: c :: l ∧ c ≠ 108 := by
  rcases hk with rfl | rfl
  · exact ⟨42, [32], rfl, by decide⟩
  · exact ⟨45, [62, 32], rfl, by decide⟩
theorem sep_unique {k k' : Int} (hk : k = 7 ∨ k = 9) (hk' : k' = 7 ∨ k' = 9) {r s : List UInt8} (e : sep k ++ r = sep k' ++ s) : k = k' ∧ r = s := by
  rcases hk with rfl | rfl <;> rcases hk' with rfl | rfl <;> simp [sep] at e <;> exact ⟨rfl, e⟩
theorem text_uniq : ∀ (N : Nat) (t : T), Tp.size t ≤ N → Tp.right t = true → ∀ u : T, Tp.right u = true →
    (∀ r s, NoDig r → NoDig s → inner t ++ r = inner u ++ s → t = u ∧ r = s) ∧
    (∀ r s, EndB r → EndB s → text t ++ r = text u ++ s → t = u ∧ r = s)
  | 0, t, h, _, _, _ => by have := Tp.size_pos t; omega
  | N + 1, t, hN, ht, u, hu => by
    have ndl : ∀ r : List UInt8, NoDig (sList ++ r) := fun r => noDig_cons (by decide)
    have nds : ∀ (k : Int) (r : List UInt8), k = 7 ∨ k = 9 → NoDig (sep k ++ r) := fun k r hk => by rcases hk with rfl | rfl <;> exact noDig_cons (by decide)
    have key : ∀ r s, EndB r → EndB s → text t ++ r = text u ++ s → t = u ∧ r = s := by
      intro r s hr hs e
      cases view t ht with
      | leaf k n _ =>
        rw [text_leaf] at e
        cases view u hu with
        | leaf k' n' _ =>
          rw [text_leaf] at e
          obtain ⟨rfl, rfl, h3⟩ := leaf_unique ht hu hr.noDig hs.noDig e
          exact ⟨rfl, h3⟩
        | list x' hx' =>
          rw [text_one, List.append_assoc] at e
          obtain ⟨-, h⟩ := inner_leaf ht hx' hr.noDig (ndl s) e
          exact (hr.no h).elim
        | two k' x' y' hk' hx' hy' =>
          rw [text_two, List.append_assoc, List.append_assoc] at e
          obtain ⟨-, h⟩ := inner_leaf ht hx' hr.noDig (nds k' _ hk') e
          obtain ⟨c, l, h1, -⟩ := sep_form hk'
          rw [h1] at h
          exact (hr.no h).elim
      | list x hx =>
        simp only [Tp.size, Tp.sizes] at hN
        rw [text_one, List.append_assoc] at e
        cases view u hu with
        | leaf k' n' _ =>
          rw [text_leaf] at e
          obtain ⟨-, h⟩ := inner_leaf hu hx hs.noDig (ndl r) e.symm
          exact (hs.no h).elim
        | list x' hx' =>
          rw [text_one, List.append_assoc] at e
          obtain ⟨rfl, h⟩ := (text_uniq N x (by omega) hx x' hx').1 _ _ (ndl r) (ndl s) e
          exact ⟨rfl, List.append_cancel_left h⟩
        | two k' x' y' hk' hx' hy' =>
          rw [text_two, List.append_assoc, List.append_assoc] at e
          obtain ⟨-, h⟩ := (text_uniq N x (by omega) hx x' hx').1 _ _ (ndl r) (nds k' _ hk') e
          obtain ⟨c, l, h1, h2⟩ := sep_form hk'
          rw [h1] at h
          simp only [sList, List.cons_append, List.cons.injEq, true_and] at h
          exact absurd h.1.symm h2
      | two k x y hk hx hy =>
        simp only [Tp.size, Tp.sizes] at hN
        rw [text_two, List.append_assoc, List.append_assoc] at e
        cases view u hu with
        | leaf k' n' _ =>
          rw [text_leaf] at e
          obtain ⟨-, h⟩ := inner_leaf hu hx hs.noDig (nds k _ hk) e.symm
          obtain ⟨c, l, h1, -⟩ := sep_form hk
          rw [h1] at h
          exact (hs.no h).elim
        | list x' hx' =>
          rw [text_one, List.append_assoc] at e
          obtain ⟨-, h⟩ := (text_uniq N x (by omega) hx x' hx').1 _ _ (nds k _ hk) (ndl s) e
          obtain ⟨c, l, h1, h2⟩ := sep_form hk
          rw [h1] at h
          simp only [sList, List.cons_append, List.cons.injEq, true_and] at h
          exact absurd h.1 h2
        | two k' x' y' hk' hx' hy' =>
          rw [text_two, List.append_assoc, List.append_assoc] at e
          obtain ⟨rfl, h⟩ := (text_uniq N x (by omega) hx x' hx').1 _ _ (nds k _ hk) (nds k' _ hk') e
          obtain ⟨e1, h2⟩ := sep_unique hk hk' h
          obtain ⟨e2, h3⟩ := (text_uniq N y (by omega) hy y' hy').1 _ _ hr.noDig hs.noDig h2
          exact ⟨by rw [e1, e2], h3⟩
    refine ⟨fun r s hr hs e => ?_, key⟩
    have comp : ∀ a b : T, inner a = 40 :: (text a ++ [41]) → inner b = 40 :: (text b ++ [41]) → inner a ++ r = inner b ++ s → text a ++ (41 :: r) = text b ++ (41 :: s) := fun a b h1 h2 h => by
      rw [h1, h2] at h
      simpa using h
    cases view t ht with
    | leaf k n _ => rw [inner_leaf0] at e; exact inner_leaf ht hu hr hs e
    | list x hx =>
      cases view u hu with
      | leaf k' n' _ =>
        rw [inner_leaf0] at e
        obtain ⟨h1, h2⟩ := inner_leaf hu ht hs hr e.symm
        exact ⟨h1.symm, h2.symm⟩
      | list x' hx' =>
        obtain ⟨h1, h2⟩ := key _ _ (.inr ⟨_, rfl⟩) (.inr ⟨_, rfl⟩) (comp _ _ (inner_list _) (inner_list _) e)
        exact ⟨h1, by injection h2⟩
      | two k' x' y' hk' hx' hy' =>
        obtain ⟨h1, h2⟩ := key _ _ (.inr ⟨_, rfl⟩) (.inr ⟨_, rfl⟩) (comp _ _ (inner_list _) (inner_two _ _ _) e)
        exact ⟨h1, by injection h2⟩
    | two k x y hk hx hy =>
      cases view u hu with
      | leaf k' n' _ =>
        rw [inner_leaf0] at e
        obtain ⟨h1, h2⟩ := inner_leaf hu ht hs hr e.symm
        exact ⟨h1.symm, h2.symm⟩
      | list x' hx' =>
        obtain ⟨h1, h2⟩ := key _ _ (.inr ⟨_, rfl⟩) (.inr ⟨_, rfl⟩) (comp _ _ (inner_two _ _ _) (inner_list _) e)
        exact ⟨h1, by injection h2⟩
      | two k' x' y' hk' hx' hy' =>
        obtain ⟨h1, h2⟩ := key _ _ (.inr ⟨_, rfl⟩) (.inr ⟨_, rfl⟩) (comp _ _ (inner_two _ _ _) (inner_two _ _ _) e)
        exact ⟨h1, by injection h2⟩
/-- No two right types have one text. -/
theorem text_inj {t u : T} (ht : Tp.right t = true) (hu : Tp.right u = true) (h : text t = text u) : t = u :=
  ((text_uniq _ t (Nat.le_refl _) ht u hu).2 [] [] (.inl rfl) (.inl rfl) (by rw [h])).1
theorem text_ne (t : T) (ht : Tp.right t = true) : text t ≠ [] := by
  cases view t ht with
  | leaf k n h =>
    obtain ⟨c, l, h1, -⟩ := leafTx_head h
    rw [text_leaf, h1]; simp
  | list x _ => rw [text_one]; simp [sList]
  | two k x y hk _ _ =>
    obtain ⟨c, l, h1, -⟩ := sep_form hk
    rw [text_two, h1]; simp

/-! What begins as a type and ends too early. -/
theorem read_nil (ps : Ps) : read [] ps = (none, []) := by rw [read_eq]; rfl
theorem pre_app : ∀ (p q a b : List Tk), p ++ q = a ++ b → (∃ c, a = p ++ c ∧ q = c ++ b ∧ c ≠ []) ∨ (∃ c, p = a ++ c ∧ b = c ++ q)
  | [], q, [], b, h => .inr ⟨[], rfl, h.symm⟩
  | [], q, x :: a, b, h => .inl ⟨x :: a, rfl, h, by simp⟩
  | y :: p, q, [], b, h => .inr ⟨y :: p, rfl, h.symm⟩
  | y :: p, q, x :: a, b, h => by
    simp only [List.cons_append, List.cons.injEq] at h
    obtain ⟨rfl, h⟩ := h
    rcases pre_app p q a b h with ⟨c, h1, h2, h3⟩ | ⟨c, h1, h2⟩
    · exact .inl ⟨c, by rw [h1]; rfl, h2, h3⟩
    · exact .inr ⟨c, by rw [h1]; rfl, h2⟩
theorem stopK_nil : StopK [] := ⟨rfl, rfl, rfl⟩
theorem fin_nil (t : T) (ps : Ps) : fin t [] ps = .done t [] ps := by
  unfold fin
  rw [if_neg (by simp [hd])]
/-- A prefix of a type's tokens is no type, or one to its end. -/
def CutOk (p : List Tk) (ps : Ps) : Prop := read p ps = (none, []) ∨ ∃ u : T, 0 < u.kind ∧ read p ps = cont (.done u [] ps)
theorem kind_pos (t : T) (ht : Tp.right t = true) : 0 < t.kind := by
  cases view t ht with
  | leaf k n h =>
    show 0 < k
    rcases right_leaf h with h | h <;> omega
  | list x _ => show (0 : Int) < 8; omega
  | two k x y hk _ _ => show 0 < k; omega
theorem read_cut : ∀ (N : Nat) (t : T), Tp.size t ≤ N → Tp.right t = true → Tp.without 6 t = true →
    (∀ p q ps, p ++ q = tk t → Plain ps → CutOk p ps) ∧ (∀ p q ps, p ++ q = inTk t → q ≠ [] → read p ps = (none, []))
  | 0, t, h, _, _ => by have := Tp.size_pos t; omega
  | N + 1, t, hN, hr, hc => by
    have paren : inTk t = (5, [40]) :: (tk t ++ [(5, [41])]) → (∀ p q ps, p ++ q = tk t → Plain ps → CutOk p ps) → ∀ p q ps, p ++ q = inTk t → q ≠ [] → read p ps = (none, []) := by
      intro h0 hk p q ps h hq
      rw [h0] at h
      cases p with
      | nil => exact read_nil ps
      | cons x p =>
        simp only [List.cons_append, List.cons.injEq] at h
        obtain ⟨rfl, h⟩ := h
        rw [read_paren]
        have hpre : ∃ q', p ++ q' = tk t := by
          rcases pre_app p q (tk t) [(5, [41])] h with ⟨c, h1, _, _⟩ | ⟨c, h1, h2⟩
          · exact ⟨c, h1.symm⟩
          · cases c with
            | nil => exact ⟨[], by rw [h1]; simp⟩
            | cons y c =>
              simp only [List.cons_append, List.cons.injEq] at h2
              have := h2.2
              cases c with
              | nil => simp at this; exact absurd this.symm (by simpa using hq)
              | cons z c => simp at this
        obtain ⟨q', hq'⟩ := hpre
        rcases hk p q' ((1, noT) :: ps) hq' (plain_paren ps) with h3 | ⟨u, _, h3⟩
        · exact h3
        · rw [h3]; rfl
    cases view t hr with
    | leaf k n _ =>
      obtain ⟨k', e1, x, e2, e3, e4⟩ := leaf_cases _ hr hc rfl
      have hi : inTk (.mk k n []) = tk (.mk k n []) := rfl
      refine ⟨fun p q ps h hp => ?_, fun p q ps h hq => ?_⟩
      · rw [e2] at h
        cases p with
        | nil => exact .inl (read_nil ps)
        | cons y p =>
          simp only [List.cons_append, List.cons.injEq] at h
          obtain ⟨rfl, h⟩ := h
          obtain ⟨rfl, -⟩ := List.append_eq_nil_iff.1 h
          right
          refine ⟨leaf k', by rw [← e1]; exact kind_pos _ hr, ?_⟩
          rw [read_leaf e3 e4, rest_plain stopK_nil hp, fin_nil]
      · rw [hi, e2] at h
        cases p with
        | nil => exact read_nil ps
        | cons y p =>
          simp only [List.cons_append, List.cons.injEq] at h
          exact absurd (List.append_eq_nil_iff.1 h.2).2 hq
    | list x hx =>
      simp only [Tp.size, Tp.sizes] at hN
      have hcx : Tp.without 6 x = true := by simp only [Tp.without, Tp.withouts, Bool.and_eq_true] at hc; exact hc.2.1
      have key : ∀ p q ps, p ++ q = tk (.mk 8 0 [x]) → Plain ps → CutOk p ps := by
        intro p q ps h hp
        rw [tk_one] at h
        rcases pre_app p q (inTk x) _ h with ⟨c, h1, h2, h3⟩ | ⟨c, h1, h2⟩
        · exact .inl ((read_cut N x (by omega) hx hcx).2 p c ps h1.symm h3)
        · rw [h1]
          cases c with
          | nil =>
            right
            refine ⟨x, kind_pos x hx, ?_⟩
            rw [(read_tk _ x (Nat.le_refl _) hx hcx).2, rest_plain stopK_nil hp, fin_nil]
          | cons y c =>
            simp only [List.cons_append, List.cons.injEq] at h2
            obtain ⟨rfl, h2⟩ := h2
            obtain ⟨rfl, -⟩ := List.append_eq_nil_iff.1 h2.symm
            right
            refine ⟨.mk 8 0 [x], by show (0 : Int) < 8; omega, ?_⟩
            rw [(read_tk _ x (Nat.le_refl _) hx hcx).2, rest_list, rest_plain stopK_nil hp, fin_nil]
      exact ⟨key, paren rfl key⟩
    | two k x y hk hx hy =>
      simp only [Tp.size, Tp.sizes] at hN
      have hcx : Tp.without 6 x = true := by simp only [Tp.without, Tp.withouts, Bool.and_eq_true] at hc; exact hc.2.1
      have hcy : Tp.without 6 y = true := by simp only [Tp.without, Tp.withouts, Bool.and_eq_true] at hc; exact hc.2.2.1
      have key : ∀ p q ps, p ++ q = tk (.mk k 0 [x, y]) → Plain ps → CutOk p ps := by
        intro p q ps h hp
        have hfull := h
        rw [tk_two] at h
        rcases pre_app p q (inTk x) _ h with ⟨c, h1, h2, h3⟩ | ⟨c, h1, h2⟩
        · exact .inl ((read_cut N x (by omega) hx hcx).2 p c ps h1.symm h3)
        · cases c with
          | nil =>
            right
            refine ⟨x, kind_pos x hx, ?_⟩
            rw [h1, (read_tk _ x (Nat.le_refl _) hx hcx).2, rest_plain stopK_nil hp, fin_nil]
          | cons z c =>
            simp only [List.cons_append, List.cons.injEq] at h2
            obtain ⟨rfl, h2⟩ := h2
            by_cases hq : q = []
            · right
              subst hq
              rw [List.append_nil] at hfull
              refine ⟨.mk k 0 [x, y], kind_pos _ hr, ?_⟩
              rw [hfull]
              have := (read_tk _ _ (Nat.le_refl _) hr hc).1 [] ps stopK_nil hp
              rw [List.append_nil] at this
              rw [this, fin_nil]
            · left
              have ihy := (read_cut N y (by omega) hy hcy).2 c q
              rw [h1, (read_tk _ x (Nat.le_refl _) hx hcx).2]
              rcases hk with rfl | rfl
              · rw [show sepS 7 = [42] from rfl, rest_star hp]
                exact ihy _ h2.symm hq
              · rw [show sepS 9 = [45, 62] from rfl, rest_arrow hp]
                exact ihy _ h2.symm hq
      exact ⟨key, paren rfl key⟩
theorem cut_top {p q : List Tk} {t : T} (hr : Tp.right t = true) (hc : Tp.without 6 t = true) (h : p ++ q = tk t) : read p [] = (none, []) ∨ ∃ u : T, 0 < u.kind ∧ read p [] = (some u, []) :=
  (read_cut _ t (Nat.le_refl _) hr hc).1 p q [] h ⟨rfl, rfl⟩
end Nt
end Go.Proofs.YtideicoifinnoaaGreatDoor
