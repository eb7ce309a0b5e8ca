/- Closed types: their rounds, plainly. -/
import Derived.Test.YteolbbgnkbcfmaaSvL
import Derived.Test.YteolbbgnkbcfmaaSuG
namespace Go.Proofs.Yteolbbgnkbcfmaa
open Go Go.RowKit
open Tp (T)
open Sg (Of Rt Den Dens Alk Mkd trav travs rootOf kidsOf)
/-- A node of a closed right type. -/
def Cl (H : List SNd) (p : Nat) : Prop := ∃ t, Den H t p ∧ Tp.right t = true ∧ Tp.without 6 t = true ∧ Tp.size t ≤ 600
/-- The types of two nodes agree. -/
def agr (H : List SNd) (x y : Nat) : Prop := ∀ t u, Den H t x → Den H u y → Tp.agree t u = true
theorem Den.at_root {H : List SNd} {t : T} {p : Nat} (hp : ∃ u, Den H u p) (h : Den H t (rootOf H p)) : Den H t p := by
  obtain ⟨u, hu⟩ := hp
  obtain ⟨d, dr, q1, q2, q3, q4, q5, _⟩ := Den.rnode hu
  exact Den.of_root h q1 (by rw [rootOf_some q3, q4]; exact q2)
theorem agr_root {H : List SNd} {x y : Nat} (hx : Cl H x) (hy : Cl H y) : agr H x y ↔ agr H (rootOf H x) (rootOf H y) := by
  obtain ⟨t0, h0, _⟩ := hx
  obtain ⟨u0, k0, _⟩ := hy
  exact ⟨fun h t u ht hu => h t u (Den.at_root ⟨_, h0⟩ ht) (Den.at_root ⟨_, k0⟩ hu), fun h t u ht hu => h t u ht.root.1 hu.root.1⟩
theorem Cl.root {H : List SNd} {x : Nat} (h : Cl H x) : Cl H (rootOf H x) := by
  obtain ⟨t, h1, h2⟩ := h
  exact ⟨t, h1.root.1, h2⟩
/-- The kids of a root. -/
theorem kid_den {H : List SNd} {t : T} {q : Nat} (h : Den H t q) (hr : rootOf H q = q) : t.kids.length = (kdN H q).length ∧ ∀ i (hi : i < t.kids.length), ∃ c, (kdN H q)[i]? = some c ∧ Den H t.kids[i] c := by
  obtain ⟨d, r, q1, q2, q3, q4, q5, q6⟩ := h.open
  have e : d.up = q := by rw [← hr]; unfold Sg.rootOf; rw [q1]
  rw [e] at q2
  have hk : kidsOf H q = kidL r.c.kind r.c.a r.c.b := by unfold Sg.kidsOf; rw [q2]
  have hl := q6.len
  unfold kdN
  rw [hk, List.length_map]
  refine ⟨hl, fun i hi => ?_⟩
  obtain ⟨c, h1, h2⟩ := q6.get i hi (by rw [← hl]; exact hi)
  refine ⟨c, ?_, h2⟩
  rw [List.getElem?_map, List.getElem?_eq_getElem (by rw [← hl]; exact hi), h1]; rfl
theorem den_kd {H : List SNd} {t : T} {p : Nat} (h : Den H t p) : kd H (rootOf H p) = t.kind := by
  obtain ⟨d, dr, _, _, q3, _, _, q6⟩ := Den.rnode h
  rw [kd_of q3]; exact q6
theorem cl_parts {t : T} (hr : Tp.right t = true) (hw : Tp.without 6 t = true) : t.kind ≠ 6 ∧ t.num = 0 ∧ ∀ i (hi : i < t.kids.length), Tp.right t.kids[i] = true ∧ Tp.without 6 t.kids[i] = true ∧ Tp.size t.kids[i] < Tp.size t := by
  have hs : ∀ i (hi : i < t.kids.length), Tp.size t.kids[i] < Tp.size t := fun i hi => kid_size t _ (List.getElem_mem hi)
  cases t with
  | mk k n l =>
    obtain ⟨_, h2, _, _, h5⟩ := Tp.right_node hr
    have hw2 : k ≠ 6 ∧ Tp.withouts 6 l = true := by simpa [Tp.without] using hw
    refine ⟨hw2.1, h5 hw2.1, fun i hi => ⟨?_, ?_, hs i hi⟩⟩
    · have key : ∀ l : List T, Tp.rights l = true → ∀ x ∈ l, Tp.right x = true := fun l => by
        induction l with
        | nil => intro _ x hx; cases hx
        | cons y r ih =>
          intro h x hx
          obtain ⟨a, b⟩ := rights_split h
          rcases List.mem_cons.1 hx with rfl | hx
          · exact a
          · exact ih b x hx
      exact key l h2 _ (List.getElem_mem hi)
    · have key : ∀ l : List T, Tp.withouts 6 l = true → ∀ x ∈ l, Tp.without 6 x = true := fun l => by
        induction l with
        | nil => intro _ x hx; cases hx
        | cons y r ih =>
          intro h x hx
          obtain ⟨a, b⟩ := withouts_split h
          rcases List.mem_cons.1 hx with rfl | hx
          · exact a
          · exact ih b x hx
      exact key l hw2.2 _ (List.getElem_mem hi)
/-- Types of one kind agree just if their kids do. -/
theorem agree_iff {t u : T} (hk : t.kind = u.kind) (h5 : t.kind ≠ 5) (hn : t.num = u.num) (hl : t.kids.length = u.kids.length) : Tp.agree t u = true ↔ ∀ i (h1 : i < t.kids.length) (h2 : i < u.kids.length), Tp.agree t.kids[i] u.kids[i] = true := by
  cases t with
  | mk k n l =>
    cases u with
    | mk k' n' l' =>
      simp only [Tp.T.kind, Tp.T.num, Tp.T.kids] at *
      subst hk hn
      rw [Tp.agree, if_neg h5, if_neg h5]
      simp only [decide_true, Bool.true_and]
      have key : ∀ a b : List T, a.length = b.length → (Tp.agrees a b = true ↔ ∀ i (h1 : i < a.length) (h2 : i < b.length), Tp.agree a[i] b[i] = true) := fun a => by
        induction a with
        | nil => intro b _; simp [Tp.agrees]
        | cons x r ih =>
          intro b hb
          cases b with
          | nil => simp at hb
          | cons y s =>
            rw [Tp.agrees, Bool.and_eq_true, ih s (by simpa using hb)]
            constructor
            · rintro ⟨h1, h2⟩ i hi hi'
              cases i with
              | zero => exact h1
              | succ i => exact h2 i (by simpa using hi) (by simpa using hi')
            · intro h
              exact ⟨h 0 (by simp) (by simp), fun i hi hi' => h (i + 1) (by simpa using hi) (by simpa using hi')⟩
      exact key l l' hl
theorem agree_dynL {t u : T} (h : t.kind = 5) (hw : Tp.without 6 u = true) : Tp.agree t u = true := by
  cases t; cases u; simp only [Tp.T.kind] at h; rw [Tp.agree, if_pos h]; exact hw
theorem agree_dynR {t u : T} (h : t.kind ≠ 5) (h' : u.kind = 5) (hw : Tp.without 6 t = true) : Tp.agree t u = true := by
  cases t; cases u; simp only [Tp.T.kind] at h h'; rw [Tp.agree, if_neg h, if_pos h']; exact hw
theorem agree_kinds {t u : T} (h : t.kind ≠ 5) (h' : u.kind ≠ 5) (hk : t.kind ≠ u.kind) : Tp.agree t u = false := by
  cases t; cases u; simp only [Tp.T.kind] at h h' hk; rw [Tp.agree, if_neg h, if_neg h']; simp [hk]
/-- Two roots of one kind agree just if their kids do. -/
theorem agr_node {H : List SNd} {x y : Nat} (hx : Cl H x) (hy : Cl H y) (rx : rootOf H x = x) (ry : rootOf H y = y) (hk : kd H x = kd H y) (h5 : kd H x ≠ 5) : agr H x y ↔ ∀ (i : Nat) c1 c2, (kdN H x)[i]? = some c1 → (kdN H y)[i]? = some c2 → agr H c1 c2 := by
  obtain ⟨t, ht, t1, t2, t3⟩ := hx
  obtain ⟨u, hu, u1, u2, u3⟩ := hy
  have kt := den_kd ht
  have ku := den_kd hu
  rw [rx] at kt; rw [ry] at ku
  obtain ⟨lt, gt⟩ := kid_den ht rx
  obtain ⟨lu, gu⟩ := kid_den hu ry
  obtain ⟨_, nt, _⟩ := cl_parts t1 t2
  obtain ⟨_, nu, _⟩ := cl_parts u1 u2
  have hkk : t.kind = u.kind := by rw [← kt, ← ku]; exact hk
  have hll : t.kids.length = u.kids.length := by
    have h1 : (kdN H x).length = ar (kd H x) := by
      obtain ⟨d, dr, q1, q2, q3, q4, q5, q6⟩ := Den.rnode ht
      rw [rx] at q3
      unfold kdN Sg.kidsOf
      rw [q3, List.length_map, kidL_len, kd_of q3]
    have h2 : (kdN H y).length = ar (kd H y) := by
      obtain ⟨d, dr, q1, q2, q3, q4, q5, q6⟩ := Den.rnode hu
      rw [ry] at q3
      unfold kdN Sg.kidsOf
      rw [q3, List.length_map, kidL_len, kd_of q3]
    rw [lt, lu, h1, h2, hk]
  have h5' : t.kind ≠ 5 := by rw [← kt]; exact h5
  have key := agree_iff hkk h5' (nt.trans nu.symm) hll
  constructor
  · intro h i c1 c2 hc1 hc2 t' u' ht' hu'
    have h9 := key.1 (h t u ht hu)
    have hi1 : i < t.kids.length := by rw [lt]; exact (List.getElem?_eq_some_iff.1 hc1).1
    have hi2 : i < u.kids.length := by rw [← hll]; exact hi1
    obtain ⟨c1', e1, d1⟩ := gt i hi1
    obtain ⟨c2', e2, d2⟩ := gu i hi2
    rw [hc1] at e1; injection e1 with e1; subst e1
    rw [hc2] at e2; injection e2 with e2; subst e2
    rw [ht'.det d1 rfl, hu'.det d2 rfl]
    exact h9 i hi1 hi2
  · intro h t' u' ht' hu'
    rw [ht'.det ht rfl, hu'.det hu rfl]
    refine key.2 (fun i hi1 hi2 => ?_)
    obtain ⟨c1, e1, d1⟩ := gt i hi1
    obtain ⟨c2, e2, d2⟩ := gu i hi2
    exact h i c1 c2 e1 e2 _ _ d1 d2
theorem cl_kid {H : List SNd} {x : Nat} (hx : Cl H x) (rx : rootOf H x = x) {i c : Nat} (hc : (kdN H x)[i]? = some c) : Cl H c := by
  obtain ⟨t, ht, t1, t2, t3⟩ := hx
  obtain ⟨lt, gt⟩ := kid_den ht rx
  have hi : i < t.kids.length := by rw [lt]; exact (List.getElem?_eq_some_iff.1 hc).1
  obtain ⟨c', e1, d1⟩ := gt i hi
  rw [hc] at e1; injection e1 with e1; subst e1
  obtain ⟨_, _, hp⟩ := cl_parts t1 t2
  obtain ⟨p1, p2, p3⟩ := hp i hi
  exact ⟨_, d1, p1, p2, by omega⟩
theorem mem_pks {fr : Bool} : ∀ {xs ys : List Nat} {p : Pr}, p ∈ pks fr xs ys ↔ ∃ (i : Nat) (c1 c2 : Nat), xs[i]? = some c1 ∧ ys[i]? = some c2 ∧ p = ⟨c1, c2, fr⟩
  | [], ys, p => by simp [pks]
  | x :: xs, [], p => by simp [pks]
  | x :: xs, y :: ys, p => by
    rw [pks, List.mem_cons, mem_pks]
    constructor
    · rintro (h | ⟨i, c1, c2, h1, h2, h3⟩)
      · exact ⟨0, x, y, rfl, rfl, h⟩
      · exact ⟨i + 1, c1, c2, by simpa using h1, by simpa using h2, h3⟩
    · rintro ⟨i, c1, c2, h1, h2, h3⟩
      cases i with
      | zero => left; simp at h1 h2; rw [h3, h1, h2]
      | succ i => exact .inr ⟨i, c1, c2, by simpa using h1, by simpa using h2, h3⟩
theorem pks_len {fr : Bool} : ∀ {xs ys : List Nat}, (pks fr xs ys).length ≤ xs.length
  | [], ys => by simp [pks]
  | x :: xs, [] => by simp [pks]
  | x :: xs, y :: ys => by simp only [pks, List.length_cons]; have := pks_len (fr := fr) (xs := xs) (ys := ys); omega
end Go.Proofs.Yteolbbgnkbcfmaa
