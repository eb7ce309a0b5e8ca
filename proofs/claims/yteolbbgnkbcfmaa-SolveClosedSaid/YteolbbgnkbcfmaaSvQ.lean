/- Closed types: a round keeps what they need. -/
import Derived.Test.YteolbbgnkbcfmaaSvP
import Derived.Test.YteolbbgnkbcfmaaSuA
namespace Go.Proofs.Yteolbbgnkbcfmaa
open Go Go.RowKit
open Tp (T)
open Sg (Of Rt Den Dens Alk Mkd trav travs rootOf kidsOf)
mutual
/-- A closed right type stands for itself. -/
theorem cren_id : ∀ t : T, Tp.right t = true → Tp.without 6 t = true → ren noM t = t
  | .mk k n l, hr, hw => by
    obtain ⟨_, h2, _, _, h5⟩ := Tp.right_node hr
    have hw2 : k ≠ 6 ∧ Tp.withouts 6 l = true := by simpa [Tp.without] using hw
    rw [ren, if_neg hw2.1, crens_id l h2 hw2.2, h5 hw2.1]
theorem crens_id : ∀ l : List T, Tp.rights l = true → Tp.withouts 6 l = true → rens noM l = l
  | [], _, _ => rfl
  | t :: r, hr, hw => by
    obtain ⟨r1, r2⟩ := rights_split hr
    obtain ⟨w1, w2⟩ := withouts_split hw
    rw [rens, cren_id t r1 w1, crens_id r r2 w2]
end
mutual
theorem trav_no6 {H : List SNd} : ∀ {t : T} {p : Nat} {Y : List Nat} {i : Nat}, Den H t p → Tp.without 6 t = true → i ∈ trav H t p Y → i ∈ Y ∨ kd H i ≠ 6
  | .mk k n l, p, Y, i, h, hw, hi => by
    have hw2 : k ≠ 6 ∧ Tp.withouts 6 l = true := by simpa [Tp.without] using hw
    by_cases hy : rootOf H p ∈ Y
    · rw [Sg.trav_in hy] at hi; exact .inl hi
    · rw [Sg.trav_out hy] at hi
      rcases List.mem_append.1 hi with hi | hi
      · obtain ⟨d, r, q1, q2, q3, q4, q5, q6⟩ := h.open
        have e : rootOf H p = d.up := by unfold Sg.rootOf; rw [q1]
        have hk : kidsOf H (rootOf H p) = kidL r.c.kind r.c.a r.c.b := by unfold Sg.kidsOf; rw [e, q2]
        rw [hk] at hi
        exact travs_no6 q6 hw2.2 hi
      · rw [List.mem_singleton] at hi
        subst hi
        right; rw [den_kd h]; exact hw2.1
theorem travs_no6 {H : List SNd} : ∀ {l : List T} {xs : List Int} {Y : List Nat} {i : Nat}, Dens H l xs → Tp.withouts 6 l = true → i ∈ travs H l xs Y → i ∈ Y ∨ kd H i ≠ 6
  | [], xs, Y, i, h, hw, hi => .inl hi
  | t :: ts, xs, Y, i, h, hw, hi => by
    obtain ⟨q, rest, rfl, h2, h3⟩ := h
    obtain ⟨w1, w2⟩ := withouts_split hw
    rcases travs_no6 h3 w2 hi with h9 | h9
    · exact trav_no6 h2 w1 h9
    · exact .inr h9
end
theorem vars_cl {H : List SNd} {t : T} {p : Nat} (h : Den H t p) (hw : Tp.without 6 t = true) : varsOf H (trav H t p []) = [] := by
  unfold varsOf
  rw [List.filter_eq_nil_iff]
  intro i hi hv
  rcases trav_no6 h hw hi with h9 | h9
  · cases h9
  · unfold isV at hv
    unfold kd at h9
    cases hd : H[i]? with
    | none => rw [hd] at hv; simp at hv
    | some d => rw [hd] at hv h9; simp at hv; exact h9 hv
def μC (N : Nat) (σ : Wrk) : Nat := 2 * (N * N - σ.D.length) + σ.P.length
theorem Cl.no6 {G : List SNd} {p : Nat} (h : Cl G p) : kd G (rootOf G p) ≠ 6 := by
  obtain ⟨t, h1, h2, h3, _⟩ := h
  rw [den_kd h1]; exact (cl_parts h2 h3).1
theorem JC.step {G : List SNd} {a b : Nat} {σ σ' : Wrk} (h : JC G a b σ) (hs : Stp σ σ') : JC G a b σ' ∧ μC G.length σ' < μC G.length σ := by
  obtain ⟨H, P, D⟩ := σ
  cases P with
  | nil => cases hs
  | cons p Q =>
    have hal : Alk G H := h.al
    obtain ⟨cx, cy⟩ := h.cl p (by simp)
    have rx : rootOf H p.x = rootOf G p.x := (hal.root _).symm
    have ry : rootOf H p.y = rootOf G p.y := (hal.root _).symm
    have hdrop : ∀ H', Alk G H' → (rootOf G p.x = rootOf G p.y ∨ kd G (rootOf G p.x) = 5 ∨ kd G (rootOf G p.y) = 5 ∨ (rootOf G p.x, rootOf G p.y) ∈ D) → JC G a b ⟨H', Q, D⟩ ∧ μC G.length ⟨H', Q, D⟩ < μC G.length ⟨H, p :: Q, D⟩ := fun H' ha hh => ⟨h.drop ha hh, by simp [μC]⟩
    have hno : ∀ {z : Nat} {t : T}, Cl G z → Den H t (rootOf G z) → varsOf H (trav H t (rootOf G z) []) = [] := fun {z t} hz hd => by
      obtain ⟨t1, e1, _, e3, _⟩ := hz
      have := hd.det ((e1.alk hal).root.1) (by rw [(hal.root z)])
      rw [this] at hd ⊢
      exact vars_cl hd e3
    rcases hs.inv rx ry with ⟨hxy, rfl⟩ | ⟨hne, ⟨hk, t, H2, hD, ha, rfl⟩ | ⟨_, hk, t, H2, hD, ha, rfl⟩ | ⟨hk, _⟩ | ⟨_, _, hk, _⟩ | ⟨hk5, hk6, hk, rfl⟩⟩
    · exact hdrop _ hal (.inl hxy)
    · rw [hno cy hD]
      exact hdrop _ (hal.trans ha) (.inr (.inl ((kd_alk hal _).trans hk)))
    · rw [hno cx hD]
      exact hdrop _ (hal.trans ha) (.inr (.inr (.inl ((kd_alk hal _).trans hk))))
    · exact absurd ((kd_alk hal _).trans hk) cx.no6
    · exact absurd ((kd_alk hal _).trans hk) cy.no6
    · unfold psh
      split
      · rename_i hh
        rcases hh with hh | hh
        · exact hdrop _ hal (.inr (.inr (.inr hh)))
        · exact absurd hh hne
      · rename_i hh
        have hj := h.push rfl rfl (by rw [kd_alk hal, kd_alk hal]; exact hk) (by rw [kd_alk hal]; exact hk5) (fun h => hh (.inl h))
        rw [← kdN_alk hal, ← kdN_alk hal]
        refine ⟨hj, ?_⟩
        have h9 := hj.dlen
        have h1 := pks_len (fr := false) (xs := kdN G (rootOf G p.x)) (ys := kdN G (rootOf G p.y))
        have h2 : (kdN G (rootOf G p.x)).length ≤ 2 := by
          unfold kdN Sg.kidsOf
          rw [List.length_map]
          cases G[rootOf G p.x]? with
          | none => simp
          | some d => dsimp only; rw [kidL_len]; exact ar_le _
        simp only [μC, List.length_cons, List.length_append] at *
        omega
theorem JC.ok {G : List SNd} {a b Lim : Nat} (hlv : ∀ d ∈ G, 0 ≤ d.c.level) (hlen : G.length ≤ 1205) (hLim : G.length + 3 ≤ Lim) (σ : Wrk) (h : JC G a b σ) : WOk Lim σ := by
  obtain ⟨H, P, D⟩ := σ
  have hal : Alk G H := h.al
  have hl := hal.len
  have hd := h.dlen
  have hn := h.np
  have hf := h.fr
  have h9 : G.length * G.length ≤ 1205 * 1205 := Nat.mul_le_mul hlen hlen
  dsimp only at hd hn hf
  have hcl : ∀ z, Cl G z → ∃ t, Den H t z ∧ Tp.size t ≤ 1000000 := fun z hz => by
    obtain ⟨t, h1, _, _, h4⟩ := hz
    exact ⟨t, h1.alk hal, by omega⟩
  refine ⟨fun p hp => ⟨hcl _ (h.cl p hp).1, hcl _ (h.cl p hp).2⟩, fun r d hd => ?_, by dsimp only; omega, by dsimp only; omega, by dsimp only; omega, fun p hp => ?_, fun p Q t e hf' => ?_, fun p Q t e hf' => ?_, by dsimp only; omega⟩
  · obtain ⟨e, q1, q2⟩ := bare_get hal.symm hd
    rw [← (bare_parts q2).2.2.1]
    exact hlv e (List.mem_of_getElem? q1)
  · have h1 := (h.cl p hp).1.lt; have h2 := (h.cl p hp).2.lt; exact ⟨by dsimp only; omega, by dsimp only; omega⟩
  · have := hf p (by dsimp only at e; rw [e]; simp)
    rw [this] at hf'; cases hf'
  · have := hf p (by dsimp only at e; rw [e]; simp)
    rw [this] at hf'; cases hf'
theorem right_pos {t : T} (h : Tp.right t = true) : 0 < t.kind ∧ t.kind ≤ 100 := by
  cases t with
  | mk k n l =>
    obtain ⟨h1, _⟩ := Tp.right_node h
    show 0 < k ∧ k ≤ 100
    unfold Tp.arity at h1
    split at h1
    · omega
    · split at h1
      · omega
      · split at h1 <;> omega
theorem JC.bad {G : List SNd} {a b : Nat} {σ : Wrk} {l r e : Int} (h : JC G a b σ) (hb : Bad σ l r e) : e = 4 ∧ l ≠ r ∧ (0 < l ∧ l ≤ 100) ∧ (0 < r ∧ r ≤ 100) ∧ ¬ agr G a b := by
  obtain ⟨H, P, D⟩ := σ
  cases P with
  | nil => cases hb
  | cons p Q =>
    have hal : Alk G H := h.al
    obtain ⟨cx, cy⟩ := h.cl p (by simp)
    have rx : rootOf H p.x = rootOf G p.x := (hal.root _).symm
    have ry : rootOf H p.y = rootOf G p.y := (hal.root _).symm
    obtain ⟨hne, ⟨h1, h2, _, _, hk, rfl, rfl, rfl⟩ | ⟨hk, _⟩ | ⟨_, _, hk, _⟩⟩ := hb.inv rx ry
    · rw [← kd_alk hal, ← kd_alk hal] at *
      obtain ⟨t, t1, t2, t3, _⟩ := cx
      obtain ⟨u, u1, u2, u3, _⟩ := cy
      rw [den_kd t1, den_kd u1] at *
      refine ⟨rfl, hk, right_pos t2, right_pos u2, fun hag => ?_⟩
      have := (h.eqv.1 hag) p (by simp) t u t1 u1
      rw [agree_kinds h1 h2 hk] at this
      cases this
    · exact absurd ((kd_alk hal _).trans hk) cx.no6
    · exact absurd ((kd_alk hal _).trans hk) cy.no6
theorem JC.fin {G : List SNd} {a b : Nat} {σ : Wrk} (h : JC G a b σ) (hp : σ.P = []) : agr G a b := h.eqv.2 (fun p hpp => by rw [hp] at hpp; cases hpp)
theorem JC.init {G : List SNd} {a b : Nat} (ha : Cl G a) (hb : Cl G b) : JC G a b ⟨G, [⟨a, b, false⟩], []⟩ := by
  refine ⟨Alk.refl _, fun p hp => ?_, fun p hp => ?_, (fun q hq => by cases hq), (fun q hq => by cases hq), ?_, List.nodup_nil, by simp⟩
  · rw [List.mem_singleton] at hp; subst hp; exact ⟨ha, hb⟩
  · rw [List.mem_singleton] at hp; subst hp; rfl
  · constructor
    · intro h p hp; rw [List.mem_singleton] at hp; subst hp; exact h
    · intro h; exact h ⟨a, b, false⟩ (by simp)
mutual
theorem mkP_lev : ∀ (t : T) (H : List SNd), (∀ d ∈ H, 0 ≤ d.c.level) → ∀ d ∈ (mkP H t).1, 0 ≤ d.c.level
  | .mk k n [], H, h, d, hd => by rw [mkP] at hd; exact h d hd
  | .mk k n (c :: cs), H, h, d, hd => by
    rw [mkP] at hd
    rcases List.mem_append.1 hd with hd | hd
    · exact mkPs_lev (c :: cs) H h d hd
    · rw [List.mem_singleton] at hd; subst hd; exact Int.le_refl _
theorem mkPs_lev : ∀ (l : List T) (H : List SNd), (∀ d ∈ H, 0 ≤ d.c.level) → ∀ d ∈ (mkPs H l).1, 0 ≤ d.c.level
  | [], H, h, d, hd => h d hd
  | t :: r, H, h, d, hd => by
    rw [mkPs] at hd
    exact mkPs_lev r _ (mkP_lev t H h) d hd
end
/-- What two closed types become in a new store. -/
structure Two (t u : T) (G : List SNd) (a b : Nat) : Prop where
  ca : Cl G a
  cb : Cl G b
  da : Den G t a
  db : Den G u b
  lev : ∀ d ∈ G, 0 ≤ d.c.level
  met : ∀ d ∈ G, d.c.met ≤ 0
  len : G.length = 5 + inner t + inner u
theorem two_made {t u : T} (ht : Tp.right t = true) (hu : Tp.right u = true) (wt : Tp.without 6 t = true) (wu : Tp.without 6 u = true) (st : Tp.size t ≤ 600) (su : Tp.size u ≤ 600) : Two t u (mkP (mkP (lvs 5) t).1 u).1 (mkP (lvs 5) t).2 (mkP (mkP (lvs 5) t).1 u).2 := by
  obtain ⟨g1, m1⟩ := mkP_ok t (lvs 5) ht wt lv_five
  obtain ⟨g2, m2⟩ := mkP_ok u (mkP (lvs 5) t).1 hu wu (g1.lv lv_five)
  have d1 := (g2.im m1).den
  have d2 := m2.den
  rw [cren_id t ht wt] at d1
  rw [cren_id u hu wu] at d2
  refine ⟨⟨t, d1, ht, wt, st⟩, ⟨u, d2, hu, wu, su⟩, d1, d2, mkP_lev u _ (mkP_lev t _ (by decide)), fun d hd => ?_, ?_⟩
  · obtain ⟨N1, e1, q1⟩ := g1.nodes
    obtain ⟨N2, e2, q2⟩ := g2.nodes
    rw [e2, e1] at hd
    rcases List.mem_append.1 hd with hd | hd
    · rcases List.mem_append.1 hd with hd | hd
      · exact (show ∀ d ∈ lvs 5, d.c.met ≤ 0 by decide) d hd
      · rw [(q1 d hd).1]; exact Int.le_refl _
    · rw [(q2 d hd).1]; exact Int.le_refl _
  · rw [mkP_len, mkP_len, show (lvs 5).length = 5 from by simp [lvs]]
theorem Two.agr {t u : T} {G : List SNd} {a b : Nat} (h : Two t u G a b) : agr G a b ↔ Tp.agree t u = true :=
  ⟨fun k => k t u h.da h.db, fun k t' u' ht hu => by rw [ht.det h.da rfl, hu.det h.db rfl]; exact k⟩
end Go.Proofs.Yteolbbgnkbcfmaa
