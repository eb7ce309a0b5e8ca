/- The store, plainly: its nodes, and which node is whose root. -/
import Derived.Test.YtaaapdfdedknfaaScP
namespace Go.Proofs.Ytaaapdfdedknfaa.Sg
open Tp (T)
/-- What a node says: its kind, level, kids, and the walk that met it last. -/
structure Cr where
  kind : Int
  level : Int
  a : Int
  b : Int
  met : Int
/-- A node: what it says, and the place of a node that has the same root, or its own. -/
structure Nd where
  c : Cr
  up : Nat
/-- r stands for p, n steps away. -/
def Rt (G : List Nd) : Nat → Nat → Nat → Prop
  | 0, p, r => r = p ∧ ∃ d, G[p]? = some d ∧ d.up = p
  | n + 1, p, r => ∃ d, G[p]? = some d ∧ d.up ≠ p ∧ Rt G n d.up r
theorem Rt.root {G : List Nd} : ∀ {n p r : Nat}, Rt G n p r → ∃ d, G[r]? = some d ∧ d.up = r
  | 0, p, r, h => by obtain ⟨rfl, h⟩ := h; exact h
  | n + 1, p, r, h => by obtain ⟨d, _, _, h⟩ := h; exact Rt.root h
theorem Rt.det {G : List Nd} : ∀ {n m p r s : Nat}, Rt G n p r → Rt G m p s → n = m ∧ r = s
  | 0, 0, p, r, s, h, h' => ⟨rfl, h.1.trans h'.1.symm⟩
  | 0, m + 1, p, r, s, h, h' => by
    obtain ⟨_, d, h1, h2⟩ := h; obtain ⟨d', h3, h4, _⟩ := h'
    rw [h1] at h3; injection h3 with h3; subst h3; exact absurd h2 h4
  | n + 1, 0, p, r, s, h, h' => by
    obtain ⟨_, d, h1, h2⟩ := h'; obtain ⟨d', h3, h4, _⟩ := h
    rw [h1] at h3; injection h3 with h3; subst h3; exact absurd h2 h4
  | n + 1, m + 1, p, r, s, h, h' => by
    obtain ⟨d, h1, _, h2⟩ := h; obtain ⟨d', h3, _, h4⟩ := h'
    rw [h1] at h3; injection h3 with h3; subst h3
    obtain ⟨e1, e2⟩ := Rt.det h2 h4
    exact ⟨by omega, e2⟩
theorem set_same {G : List Nd} {p : Nat} {d e : Nd} (h : G[p]? = some d) : (G.set p e)[p]? = some e := by
  rw [List.getElem?_set_self (List.getElem?_eq_some_iff.1 h).1]
theorem set_other {G : List Nd} {p q : Nat} (e : Nd) (h : q ≠ p) : (G.set p e)[q]? = G[q]? := by
  rw [List.getElem?_set_ne (fun x => h x.symm)]
/-- The way made shorter at one place: what stands for what stays, and no way gets longer. -/
theorem Rt.halve {G : List Nd} {p q : Nat} {d e : Nd} (hd : G[p]? = some d) (hq : d.up = q) (hne : q ≠ p) (he : G[q]? = some e) :
    ∀ (n x r : Nat), Rt G n x r → ∃ m, m ≤ n ∧ Rt (G.set p { d with up := e.up }) m x r := by
  intro n
  induction n using Nat.strongRecOn with
  | ind n ih =>
    intro x r h
    by_cases hx : x = p
    · subst hx
      cases n with
      | zero =>
        obtain ⟨_, d', h1, h2⟩ := h
        rw [hd] at h1; injection h1 with h1; subst h1; exact absurd (hq.symm.trans h2) hne
      | succ k =>
        obtain ⟨d', h1, h2, h3⟩ := h
        rw [hd] at h1; injection h1 with h1; subst h1
        rw [hq] at h3
        cases k with
        | zero =>
          obtain ⟨rfl, e', h4, h5⟩ := h3
          rw [he] at h4; injection h4 with h4; subst h4
          refine ⟨1, Nat.le_refl _, _, set_same hd, ?_, h5.symm, e, ?_, rfl⟩
          · show e.up ≠ x; rw [h5]; exact hne
          · show (G.set x { d with up := e.up })[e.up]? = some e
            rw [h5, set_other _ hne]; exact he
        | succ j =>
          obtain ⟨e', h4, h5, h6⟩ := h3
          rw [he] at h4; injection h4 with h4; subst h4
          obtain ⟨m, hm, h7⟩ := ih j (by omega) _ _ h6
          refine ⟨m + 1, by omega, _, set_same hd, ?_, h7⟩
          intro hc
          rw [show e.up = x from hc] at h6
          have := (Rt.det h6 (m := j + 2) ⟨d, hd, by rw [hq]; exact hne, by rw [hq]; exact ⟨e, he, h5, by rw [show e.up = x from hc]; exact h6⟩⟩).1
          omega
    · cases n with
      | zero =>
        obtain ⟨rfl, d', h1, h2⟩ := h
        exact ⟨0, Nat.le_refl _, rfl, d', by rw [set_other _ hx]; exact h1, h2⟩
      | succ k =>
        obtain ⟨d', h1, h2, h3⟩ := h
        obtain ⟨m, hm, h4⟩ := ih k (by omega) _ _ h3
        exact ⟨m + 1, by omega, d', by rw [set_other _ hx]; exact h1, h2, h4⟩
/-- One round of find: the next place is nearer. -/
theorem Rt.next {G : List Nd} {p q n r : Nat} {d e : Nd} (hd : G[p]? = some d) (hq : d.up = q) (hne : q ≠ p) (he : G[q]? = some e) (h : Rt G n p r) : ∃ m, m < n ∧ Rt (G.set p { d with up := e.up }) m e.up r := by
  cases n with
  | zero =>
    obtain ⟨_, d', h1, h2⟩ := h
    rw [hd] at h1; injection h1 with h1; subst h1; exact absurd (hq.symm.trans h2) hne
  | succ k =>
    obtain ⟨d', h1, h2, h3⟩ := h
    rw [hd] at h1; injection h1 with h1; subst h1
    rw [hq] at h3
    cases k with
    | zero =>
      obtain ⟨rfl, e', h4, h5⟩ := h3
      rw [he] at h4; injection h4 with h4; subst h4
      exact ⟨0, by omega, h5.symm, e, by rw [h5, set_other _ hne]; exact he, rfl⟩
    | succ j =>
      obtain ⟨e', h4, h5, h6⟩ := h3
      rw [he] at h4; injection h4 with h4; subst h4
      obtain ⟨m, hm, h7⟩ := Rt.halve hd hq hne he j _ _ h6
      exact ⟨m, by omega, h7⟩
/-- A graph, and the same graph with all ways made short. -/
structure Of (G H : List Nd) : Prop where
  len : G.length = H.length
  nd : ∀ p g h, G[p]? = some g → H[p]? = some h → g.c = h.c ∧ ∃ n, Rt G n p h.up
theorem Of.get {G H : List Nd} (h : Of G H) {p : Nat} {d : Nd} (hd : H[p]? = some d) : ∃ g, G[p]? = some g ∧ g.c = d.c ∧ ∃ n, Rt G n p d.up := by
  have hl : p < G.length := by rw [h.len]; exact (List.getElem?_eq_some_iff.1 hd).1
  exact ⟨G[p], List.getElem?_eq_getElem hl, h.nd p _ _ (List.getElem?_eq_getElem hl) hd⟩
theorem Of.back {G H : List Nd} (h : Of G H) {p : Nat} {g : Nd} (hg : G[p]? = some g) : ∃ d, H[p]? = some d ∧ g.c = d.c ∧ ∃ n, Rt G n p d.up := by
  have hl : p < H.length := by rw [← h.len]; exact (List.getElem?_eq_some_iff.1 hg).1
  exact ⟨H[p], List.getElem?_eq_getElem hl, h.nd p _ _ hg (List.getElem?_eq_getElem hl)⟩
/-- Whoever stands for itself in one stands for itself in the other. -/
theorem Of.self {G H : List Nd} (h : Of G H) {p : Nat} {g d : Nd} (hg : G[p]? = some g) (hd : H[p]? = some d) : g.up = p ↔ d.up = p := by
  obtain ⟨_, n, hr⟩ := h.nd p g d hg hd
  constructor
  · intro e
    exact (Rt.det hr (m := 0) ⟨rfl, g, hg, e⟩).2
  · intro e
    rw [e] at hr
    obtain ⟨g', h1, h2⟩ := Rt.root hr
    rw [hg] at h1; injection h1 with h1; rw [h1]; exact h2
theorem Of.halve {G H : List Nd} (h : Of G H) {p q : Nat} {d e : Nd} (hd : G[p]? = some d) (hq : d.up = q) (hne : q ≠ p) (he : G[q]? = some e) : Of (G.set p { d with up := e.up }) H := by
  refine ⟨by rw [List.length_set]; exact h.len, fun x g' h' hg hh => ?_⟩
  by_cases hx : x = p
  · subst hx
    rw [set_same hd] at hg; injection hg with hg; subst hg
    obtain ⟨h1, n, h4⟩ := h.nd x d h' hd hh
    obtain ⟨m, _, h5⟩ := Rt.halve hd hq hne he n _ _ h4
    exact ⟨h1, m, h5⟩
  · rw [set_other _ hx] at hg
    obtain ⟨h1, n, h4⟩ := h.nd x g' h' hg hh
    obtain ⟨m, _, h5⟩ := Rt.halve hd hq hne he n _ _ h4
    exact ⟨h1, m, h5⟩
/-- One that stood for itself is stood for by another one that does. -/
def link (H : List Nd) (p q : Nat) : List Nd := H.map fun x => if x.up = p then { x with up := q } else x
theorem link_get {H : List Nd} {p q x : Nat} {d : Nd} (h : H[x]? = some d) : (link H p q)[x]? = some (if d.up = p then { d with up := q } else d) := by
  unfold link; rw [List.getElem?_map, h]; rfl
theorem link_back {H : List Nd} {p q x : Nat} {d' : Nd} (h : (link H p q)[x]? = some d') : ∃ d, H[x]? = some d ∧ d' = if d.up = p then { d with up := q } else d := by
  unfold link at h
  rw [List.getElem?_map] at h
  cases hx : H[x]? with
  | none => rw [hx] at h; cases h
  | some d => rw [hx] at h; injection h with h; exact ⟨d, rfl, h.symm⟩
theorem link_len (H : List Nd) (p q : Nat) : (link H p q).length = H.length := by simp [link]
theorem Rt.far {G : List Nd} {p q : Nat} {d : Nd} (hd : G[p]? = some d) (hp : d.up = p) : ∀ (n x r : Nat), Rt G n x r → r ≠ p → Rt (G.set p { d with up := q }) n x r
  | 0, x, r, h, hr => by
    obtain ⟨rfl, e, h1, h2⟩ := h
    exact ⟨rfl, e, by rw [set_other _ hr]; exact h1, h2⟩
  | n + 1, x, r, h, hr => by
    obtain ⟨e, h1, h2, h3⟩ := h
    have hx : x ≠ p := fun hx => by subst hx; rw [hd] at h1; injection h1 with h1; subst h1; exact h2 hp
    exact ⟨e, by rw [set_other _ hx]; exact h1, h2, Rt.far hd hp n _ _ h3 hr⟩
theorem Rt.near {G : List Nd} {p q : Nat} {d e : Nd} (hd : G[p]? = some d) (hp : d.up = p) (he : G[q]? = some e) (hq : e.up = q) (hne : q ≠ p) : ∀ (n x : Nat), Rt G n x p → Rt (G.set p { d with up := q }) (n + 1) x q
  | 0, x, h => by
    obtain ⟨rfl, _⟩ := h
    exact ⟨_, set_same hd, hne, rfl, e, by rw [set_other _ hne]; exact he, hq⟩
  | n + 1, x, h => by
    obtain ⟨f, h1, h2, h3⟩ := h
    have hx : x ≠ p := fun hx => by subst hx; rw [hd] at h1; injection h1 with h1; subst h1; exact h2 hp
    exact ⟨f, by rw [set_other _ hx]; exact h1, h2, Rt.near hd hp he hq hne n _ h3⟩
theorem Of.link {G H : List Nd} (h : Of G H) {p q : Nat} {d e : Nd} (hd : G[p]? = some d) (hp : d.up = p) (he : G[q]? = some e) (hq : e.up = q) (hne : q ≠ p) : Of (G.set p { d with up := q }) (link H p q) := by
  refine ⟨by rw [List.length_set, link_len]; exact h.len, fun x g' h' hg hh => ?_⟩
  obtain ⟨y, hy, rfl⟩ := link_back hh
  have key : ∀ g, G[x]? = some g → ∃ n, Rt (G.set p { d with up := q }) n x (if y.up = p then { y with up := q } else y).up := fun g hg => by
    obtain ⟨_, n, h4⟩ := h.nd x g y hg hy
    by_cases hu : y.up = p
    · rw [if_pos hu]; rw [hu] at h4; exact ⟨_, Rt.near hd hp he hq hne n _ h4⟩
    · rw [if_neg hu]; exact ⟨_, Rt.far hd hp n _ _ h4 hu⟩
  have flds : (if y.up = p then { y with up := q } else y).c = y.c := by split <;> rfl
  by_cases hx : x = p
  · subst hx
    rw [set_same hd] at hg; injection hg with hg; subst hg
    obtain ⟨h1, _⟩ := h.nd x d y hd hy
    exact ⟨h1.trans flds.symm, key d hd⟩
  · rw [set_other _ hx] at hg
    obtain ⟨h1, _⟩ := h.nd x g' y hg hy
    exact ⟨h1.trans flds.symm, key g' hg⟩
/-- One node more, that stands for itself or is stood for by what a node stands for. -/
theorem Rt.snoc {G : List Nd} {d : Nd} : ∀ {n x r : Nat}, Rt G n x r → Rt (G ++ [d]) n x r
  | 0, x, r, h => by
    obtain ⟨rfl, e, h1, h2⟩ := h
    exact ⟨rfl, e, by rw [List.getElem?_append_left (List.getElem?_eq_some_iff.1 h1).1]; exact h1, h2⟩
  | n + 1, x, r, h => by
    obtain ⟨e, h1, h2, h3⟩ := h
    exact ⟨e, by rw [List.getElem?_append_left (List.getElem?_eq_some_iff.1 h1).1]; exact h1, h2, Rt.snoc h3⟩
theorem Of.snoc_own {G H : List Nd} (h : Of G H) {d : Nd} (hd : d.up = G.length) : Of (G ++ [d]) (H ++ [d]) := by
  refine ⟨by simp [h.len], fun x g' h' hg hh => ?_⟩
  by_cases hx : x < G.length
  · rw [List.getElem?_append_left hx] at hg
    rw [List.getElem?_append_left (by rw [← h.len]; exact hx)] at hh
    obtain ⟨h1, n, h4⟩ := h.nd x g' h' hg hh
    exact ⟨h1, n, h4.snoc⟩
  · have hxl := (List.getElem?_eq_some_iff.1 hg).1
    rw [List.length_append, List.length_singleton] at hxl
    obtain rfl : x = G.length := by omega
    have e1 : (G ++ [d])[G.length]? = some d := by simp
    have e2 : (H ++ [d])[G.length]? = some d := by rw [h.len]; simp
    rw [e1] at hg; injection hg with hg; subst hg
    rw [e2] at hh; injection hh with hh; subst hh
    exact ⟨rfl, 0, hd, d, e1, hd⟩
/-- What a node says is written. -/
theorem Rt.say {G : List Nd} {p : Nat} {d : Nd} (hd : G[p]? = some d) (c : Cr) : ∀ {n x r : Nat}, Rt G n x r → Rt (G.set p { d with c := c }) n x r
  | 0, x, r, h => by
    obtain ⟨rfl, e, h1, h2⟩ := h
    by_cases hx : r = p
    · subst hx; rw [hd] at h1; injection h1 with h1; subst h1; exact ⟨rfl, _, set_same hd, h2⟩
    · exact ⟨rfl, e, by rw [set_other _ hx]; exact h1, h2⟩
  | n + 1, x, r, h => by
    obtain ⟨e, h1, h2, h3⟩ := h
    by_cases hx : x = p
    · subst hx; rw [hd] at h1; injection h1 with h1; subst h1; exact ⟨_, set_same hd, h2, Rt.say hd c h3⟩
    · exact ⟨e, by rw [set_other _ hx]; exact h1, h2, Rt.say hd c h3⟩
theorem Of.say {G H : List Nd} (h : Of G H) {p : Nat} {d e : Nd} (hd : G[p]? = some d) (he : H[p]? = some e) (c : Cr) : Of (G.set p { d with c := c }) (H.set p { e with c := c }) := by
  refine ⟨by simp [h.len], fun x g' h' hg hh => ?_⟩
  by_cases hx : x = p
  · subst hx
    rw [set_same hd] at hg; injection hg with hg; subst hg
    rw [set_same he] at hh; injection hh with hh; subst hh
    obtain ⟨_, n, h4⟩ := h.nd x d e hd he
    exact ⟨rfl, n, Rt.say hd c h4⟩
  · rw [set_other _ hx] at hg hh
    obtain ⟨h1, n, h4⟩ := h.nd x g' h' hg hh
    exact ⟨h1, n, Rt.say hd c h4⟩
/-- A root is its own root. -/
theorem Of.root {G H : List Nd} (h : Of G H) {p : Nat} {d : Nd} (hd : H[p]? = some d) : ∃ e, H[d.up]? = some e ∧ e.up = d.up := by
  obtain ⟨g, hg, _, n, hr⟩ := h.get hd
  obtain ⟨g', h1, h2⟩ := Rt.root hr
  obtain ⟨e, he, _⟩ := h.back h1
  exact ⟨e, he, (h.self h1 he).1 h2⟩
end Go.Proofs.Ytaaapdfdedknfaa.Sg
