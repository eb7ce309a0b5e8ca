/- Closed types: what the rounds keep. -/
import Derived.Test.YteolbbgnkbcfmaaSvO
namespace Go.Proofs.Yteolbbgnkbcfmaa
open Go Go.RowKit
open Tp (T)
open Sg (Of Rt Den Dens Alk Mkd trav travs rootOf kidsOf)
structure JC (G : List SNd) (a b : Nat) (σ : Wrk) : Prop where
  al : Alk G σ.H
  cl : ∀ p ∈ σ.P, Cl G p.x ∧ Cl G p.y
  fr : ∀ p ∈ σ.P, p.fr = false
  cd : ∀ q ∈ σ.D, rootOf G q.1 = q.1 ∧ rootOf G q.2 = q.2 ∧ Cl G q.1 ∧ Cl G q.2 ∧ kd G q.1 = kd G q.2 ∧ kd G q.1 ≠ 5
  kid : ∀ q ∈ σ.D, ∀ (i : Nat) c1 c2, (kdN G q.1)[i]? = some c1 → (kdN G q.2)[i]? = some c2 → rootOf G c1 = rootOf G c2 ∨ kd G (rootOf G c1) = 5 ∨ kd G (rootOf G c2) = 5 ∨ (rootOf G c1, rootOf G c2) ∈ σ.D ∨ ∃ p ∈ σ.P, p.x = c1 ∧ p.y = c2
  eqv : agr G a b ↔ ∀ p ∈ σ.P, agr G p.x p.y
  nd : (σ.D.map fun q => q.1 * G.length + q.2).Nodup
  np : σ.P.length ≤ 1 + σ.D.length
theorem enc_inj {N x y x' y' : Nat} (h1 : y < N) (h2 : y' < N) (h : x * N + y = x' * N + y') : x = x' ∧ y = y' := by
  have hN : 0 < N := by omega
  have e1 : (x * N + y) / N = x := by rw [Nat.add_comm, Nat.add_mul_div_right _ _ hN, Nat.div_eq_of_lt h1, Nat.zero_add]
  have e2 : (x' * N + y') / N = x' := by rw [Nat.add_comm, Nat.add_mul_div_right _ _ hN, Nat.div_eq_of_lt h2, Nat.zero_add]
  have hx : x = x' := by rw [← e1, h, e2]
  subst hx
  exact ⟨rfl, by omega⟩
theorem Cl.lt {G : List SNd} {p : Nat} (h : Cl G p) : p < G.length := by
  obtain ⟨t, h1, _⟩ := h
  obtain ⟨d, _, q1, _⟩ := h1.open
  exact (List.getElem?_eq_some_iff.1 q1).1
theorem JC.dlen {G : List SNd} {a b : Nat} {σ : Wrk} (h : JC G a b σ) : σ.D.length ≤ G.length * G.length := by
  have h1 := nodup_len (G.length * G.length) _ h.nd (fun x hx => by
    obtain ⟨q, hq, rfl⟩ := List.mem_map.1 hx
    obtain ⟨_, _, c1, c2, _⟩ := h.cd q hq
    have l1 := c1.lt; have l2 := c2.lt
    have h9 : (q.1 + 1) * G.length ≤ G.length * G.length := Nat.mul_le_mul_right _ l1
    rw [Nat.add_mul] at h9
    show q.1 * G.length + q.2 < _
    omega)
  simpa using h1
/-- What agreed goes on to agree. -/
theorem JC.dagr {G : List SNd} {D : List (Nat × Nat)} {P : List Pr} (hcd : ∀ q ∈ D, rootOf G q.1 = q.1 ∧ rootOf G q.2 = q.2 ∧ Cl G q.1 ∧ Cl G q.2 ∧ kd G q.1 = kd G q.2 ∧ kd G q.1 ≠ 5)
    (hkid : ∀ q ∈ D, ∀ (i : Nat) c1 c2, (kdN G q.1)[i]? = some c1 → (kdN G q.2)[i]? = some c2 → rootOf G c1 = rootOf G c2 ∨ kd G (rootOf G c1) = 5 ∨ kd G (rootOf G c2) = 5 ∨ (rootOf G c1, rootOf G c2) ∈ D ∨ ∃ p ∈ P, p.x = c1 ∧ p.y = c2)
    (hP : ∀ p ∈ P, agr G p.x p.y) : ∀ (n : Nat) (q : Nat × Nat), q ∈ D → (∃ t, Den G t q.1 ∧ Tp.size t ≤ n) → agr G q.1 q.2 := by
  intro n
  induction n with
  | zero => rintro q _ ⟨t, _, h⟩; have := Tp.size_pos t; omega
  | succ n ih =>
    rintro q hq ⟨t, ht, hn⟩
    obtain ⟨r1, r2, c1, c2, hk, h5⟩ := hcd q hq
    refine (agr_node c1 c2 r1 r2 hk h5).2 (fun i k1 k2 h1 h2 => ?_)
    have g1 := cl_kid c1 r1 h1
    have g2 := cl_kid c2 r2 h2
    have hsz : ∃ t', Den G t' k1 ∧ Tp.size t' ≤ n := by
      obtain ⟨lt, gt⟩ := kid_den ht r1
      have hi : i < t.kids.length := by rw [lt]; exact (List.getElem?_eq_some_iff.1 h1).1
      obtain ⟨c', e1, d1⟩ := gt i hi
      rw [h1] at e1; injection e1 with e1; subst e1
      have := kid_size t _ (List.getElem_mem hi)
      exact ⟨_, d1, by omega⟩
    rcases hkid q hq i k1 k2 h1 h2 with h | h | h | h | ⟨p, hp, rfl, rfl⟩
    · intro t' u' ht' hu'
      obtain ⟨t1, e1, e2, e3, _⟩ := g1
      rw [ht'.det e1 rfl, hu'.det e1 h.symm]
      exact Tp.agree_self t1 e2
    · intro t' u' ht' hu'
      obtain ⟨u1, e1, e2, e3, _⟩ := g2
      rw [hu'.det e1 rfl]
      exact agree_dynL ((den_kd ht').symm.trans h) e3
    · intro t' u' ht' hu'
      obtain ⟨t1, e1, e2, e3, _⟩ := g1
      have ht1 := ht'.det e1 rfl
      subst ht1
      by_cases h' : t'.kind = 5
      · obtain ⟨u1, f1, f2, f3, _⟩ := g2
        rw [hu'.det f1 rfl]
        exact agree_dynL h' f3
      · exact agree_dynR h' ((den_kd hu').symm.trans h) e3
    · have h9 := ih _ h (by obtain ⟨t', d1, d2⟩ := hsz; exact ⟨t', d1.root.1, d2⟩)
      exact (agr_root g1 g2).2 h9
    · exact hP p hp
/-- A settled pair agrees. -/
theorem agr_same {G : List SNd} {x y : Nat} (hx : Cl G x) (h : rootOf G x = rootOf G y) : agr G x y := fun t u ht hu => by
  obtain ⟨t1, e1, e2, e3, _⟩ := hx
  rw [ht.det e1 rfl, hu.det e1 h.symm]
  exact Tp.agree_self t1 e2
theorem agr_dyn {G : List SNd} {x y : Nat} (hx : Cl G x) (hy : Cl G y) (h : kd G (rootOf G x) = 5 ∨ kd G (rootOf G y) = 5) : agr G x y := fun t u ht hu => by
  obtain ⟨t1, e1, e2, e3, _⟩ := hx
  obtain ⟨u1, f1, f2, f3, _⟩ := hy
  have ht1 := ht.det e1 rfl
  have hu1 := hu.det f1 rfl
  subst ht1 hu1
  by_cases h' : t.kind = 5
  · exact agree_dynL h' f3
  · rcases h with h | h
    · exact absurd ((den_kd ht).symm.trans h) h'
    · exact agree_dynR h' ((den_kd hu).symm.trans h) e3
/-- A pair that is settled is taken away. -/
theorem JC.drop {G : List SNd} {a b : Nat} {H H' : List SNd} {p : Pr} {Q : List Pr} {D : List (Nat × Nat)} (h : JC G a b ⟨H, p :: Q, D⟩) (ha : Alk G H') (hs : rootOf G p.x = rootOf G p.y ∨ kd G (rootOf G p.x) = 5 ∨ kd G (rootOf G p.y) = 5 ∨ (rootOf G p.x, rootOf G p.y) ∈ D) : JC G a b ⟨H', Q, D⟩ := by
  have hkid : ∀ q ∈ D, ∀ (i : Nat) c1 c2, (kdN G q.1)[i]? = some c1 → (kdN G q.2)[i]? = some c2 → rootOf G c1 = rootOf G c2 ∨ kd G (rootOf G c1) = 5 ∨ kd G (rootOf G c2) = 5 ∨ (rootOf G c1, rootOf G c2) ∈ D ∨ ∃ p ∈ Q, p.x = c1 ∧ p.y = c2 := fun q hq i c1 c2 h1 h2 => by
    rcases h.kid q hq i c1 c2 h1 h2 with h | h | h | h | ⟨p', hp, e1, e2⟩
    · exact .inl h
    · exact .inr (.inl h)
    · exact .inr (.inr (.inl h))
    · exact .inr (.inr (.inr (.inl h)))
    · rcases List.mem_cons.1 hp with rfl | hp
      · rw [← e1, ← e2]
        rcases hs with h | h | h | h
        · exact .inl h
        · exact .inr (.inl h)
        · exact .inr (.inr (.inl h))
        · exact .inr (.inr (.inr (.inl h)))
      · exact .inr (.inr (.inr (.inr ⟨p', hp, e1, e2⟩)))
  obtain ⟨cx, cy⟩ := h.cl p (by simp)
  refine ⟨ha, fun q hq => h.cl q (List.mem_cons_of_mem _ hq), fun q hq => h.fr q (List.mem_cons_of_mem _ hq), h.cd, hkid, ?_, h.nd, by have := h.np; simp only [List.length_cons] at this; dsimp only; omega⟩
  rw [h.eqv]
  constructor
  · exact fun h q hq => h q (List.mem_cons_of_mem _ hq)
  · intro hQ q hq
    rcases List.mem_cons.1 hq with rfl | hq
    · rcases hs with h' | h' | h' | h'
      · exact agr_same cx h'
      · exact agr_dyn cx cy (.inl h')
      · exact agr_dyn cx cy (.inr h')
      · obtain ⟨t, d1, _⟩ := cx.root
        exact (agr_root cx cy).2 (JC.dagr h.cd hkid hQ (Tp.size t) _ h' ⟨t, d1, Nat.le_refl _⟩)
    · exact hQ q hq
/-- A pair of roots of one kind gives way to those of its kids. -/
theorem JC.push {G : List SNd} {a b : Nat} {H : List SNd} {p : Pr} {Q : List Pr} {D : List (Nat × Nat)} {x y : Nat} (h : JC G a b ⟨H, p :: Q, D⟩) (hx : rootOf G p.x = x) (hy : rootOf G p.y = y) (hk : kd G x = kd G y) (h5 : kd G x ≠ 5) (hn : ¬ (x, y) ∈ D) : JC G a b ⟨H, pks false (kdN G x) (kdN G y) ++ Q, (x, y) :: D⟩ := by
  obtain ⟨cx, cy⟩ := h.cl p (by simp)
  have rx : rootOf G x = x := by obtain ⟨t, ht, _⟩ := cx; have := ht.root.2; rw [hx] at this; exact this
  have ry : rootOf G y = y := by obtain ⟨t, ht, _⟩ := cy; have := ht.root.2; rw [hy] at this; exact this
  have clx : Cl G x := hx ▸ cx.root
  have cly : Cl G y := hy ▸ cy.root
  have hmem : ∀ q, q ∈ pks false (kdN G x) (kdN G y) ++ Q ↔ (∃ (i : Nat) (c1 c2 : Nat), (kdN G x)[i]? = some c1 ∧ (kdN G y)[i]? = some c2 ∧ q = ⟨c1, c2, false⟩) ∨ q ∈ Q := fun q => by rw [List.mem_append, mem_pks]
  refine ⟨h.al, fun q hq => ?_, fun q hq => ?_, fun q hq => ?_, fun q hq i c1 c2 h1 h2 => ?_, ?_, ?_, ?_⟩
  · rcases (hmem q).1 hq with ⟨i, c1, c2, h1, h2, rfl⟩ | hq
    · exact ⟨cl_kid clx rx h1, cl_kid cly ry h2⟩
    · exact h.cl q (List.mem_cons_of_mem _ hq)
  · rcases (hmem q).1 hq with ⟨i, c1, c2, h1, h2, rfl⟩ | hq
    · rfl
    · exact h.fr q (List.mem_cons_of_mem _ hq)
  · rcases List.mem_cons.1 hq with rfl | hq
    · exact ⟨rx, ry, clx, cly, hk, h5⟩
    · exact h.cd q hq
  · rcases List.mem_cons.1 hq with rfl | hq
    · exact .inr (.inr (.inr (.inr ⟨⟨c1, c2, false⟩, (hmem _).2 (.inl ⟨i, c1, c2, h1, h2, rfl⟩), rfl, rfl⟩)))
    · rcases h.kid q hq i c1 c2 h1 h2 with h | h | h | h | ⟨p', hp, e1, e2⟩
      · exact .inl h
      · exact .inr (.inl h)
      · exact .inr (.inr (.inl h))
      · exact .inr (.inr (.inr (.inl (List.mem_cons_of_mem _ h))))
      · rcases List.mem_cons.1 hp with rfl | hp
        · rw [← e1, ← e2, hx, hy]
          exact .inr (.inr (.inr (.inl (by simp))))
        · exact .inr (.inr (.inr (.inr ⟨p', (hmem _).2 (.inr hp), e1, e2⟩)))
  · rw [h.eqv]
    have hpx : agr G p.x p.y ↔ agr G x y := by rw [agr_root cx cy, hx, hy]
    have hnode := agr_node clx cly rx ry hk h5
    constructor
    · intro hall q hq
      rcases (hmem q).1 hq with ⟨i, c1, c2, h1, h2, rfl⟩ | hq
      · exact hnode.1 (hpx.1 (hall p (by simp))) i c1 c2 h1 h2
      · exact hall q (List.mem_cons_of_mem _ hq)
    · intro hall q hq
      rcases List.mem_cons.1 hq with rfl | hq
      · exact hpx.2 (hnode.2 (fun i c1 c2 h1 h2 => hall ⟨c1, c2, false⟩ ((hmem _).2 (.inl ⟨i, c1, c2, h1, h2, rfl⟩))))
      · exact hall q ((hmem _).2 (.inr hq))
  · rw [List.map_cons]
    refine List.nodup_cons.2 ⟨fun hm => ?_, h.nd⟩
    obtain ⟨q, hq, e⟩ := List.mem_map.1 hm
    obtain ⟨_, _, c1, c2, _⟩ := h.cd q hq
    obtain ⟨e1, e2⟩ := enc_inj c2.lt cly.lt e
    exact hn ((Prod.ext e1 e2 : q = (x, y)) ▸ hq)
  · have h1 := pks_len (fr := false) (xs := kdN G x) (ys := kdN G y)
    have h2 : (kdN G x).length ≤ 2 := by
      unfold kdN Sg.kidsOf
      rw [List.length_map]
      cases G[x]? with
      | none => simp
      | some d => dsimp only; rw [kidL_len]; exact ar_le _
    have := h.np
    simp only [List.length_cons, List.length_append] at *
    omega
end Go.Proofs.Yteolbbgnkbcfmaa
