/- The graph of scheme.Under, plainly: its nodes, and which node stands for which. What a graph says of types; two nodes made the same. A type added to a graph: node by node, the kids of each behind those of the ones ahead of it. No node within itself: nodes taken away that are not below others. scheme.Under's search, plainly: pairs of types looked at one after the other, parts of them made the same. The graph of scheme.Under in memory. scheme.graph.find: what stands for a node. What scheme.graph.unite walks with: its stack of pairs; what stays. scheme.graph.firstOf: where a variable stands first: a map keyed by two ints. A map from numbers to types. scheme.graph.firstOf, walked. Rows of types: kids of a type that lies, appended to a row of the call's own. -/
import Derived.Test.YtncdbbjkafgphaaScP
import Derived.Test.YtncdbbjkafgphaaPbA
import Derived.Test.YtncdbbjkafgphaaSeqR
import Derived.Deep.QuietTactic
import Derived.Test.YtncdbbjkafgphaaTfA
import Derived.Maps.OwnSet
import Derived.Maps.Views
import Derived.DeepKeys4
import Derived.Test.YtncdbbjkafgphaaTkA
import Derived.OwnWalk
import Derived.Laws.OwnMore
namespace Go.Proofs.Ytncdbbjkafgphaa.Ug
open Tp (T)
/-- A node: its kind, the places of its kids (from lo on, up to hi), the place of a node of the same type, or its own. -/
structure Nd where
  kind : Int
  lo : Nat
  hi : Nat
  up : Nat
/-- r stands for p, n steps away. -/
def Rt (G : List Nd) : Nat → Nat → Nat → Prop
  | 0, p, r => r = p ∧ ∃ d, G[p]? = some d ∧ d.up = p
  | n + 1, p, r => ∃ d, G[p]? = some d ∧ d.up ≠ p ∧ Rt G n d.up r
theorem Rt.root {G : List Nd} : ∀ {n p r : Nat}, Rt G n p r → ∃ d, G[r]? = some d ∧ d.up = r
  | 0, p, r, h => by obtain ⟨rfl, h⟩ := h; exact h
  | n + 1, p, r, h => by obtain ⟨d, _, _, h⟩ := h; exact Rt.root h
theorem Rt.det {G : List Nd} : ∀ {n m p r s : Nat}, Rt G n p r → Rt G m p s → n = m ∧ r = s
  | 0, 0, p, r, s, h, h' => ⟨rfl, h.1.trans h'.1.symm⟩
  | 0, m + 1, p, r, s, h, h' => by
    obtain ⟨_, d, h1, h2⟩ := h; obtain ⟨d', h3, h4, _⟩ := h'
    rw [h1] at h3; injection h3 with h3; subst h3; exact absurd h2 h4
  | n + 1, 0, p, r, s, h, h' => by
    obtain ⟨_, d, h1, h2⟩ := h'; obtain ⟨d', h3, h4, _⟩ := h
    rw [h1] at h3; injection h3 with h3; subst h3; exact absurd h2 h4
  | n + 1, m + 1, p, r, s, h, h' => by
    obtain ⟨d, h1, _, h2⟩ := h; obtain ⟨d', h3, _, h4⟩ := h'
    rw [h1] at h3; injection h3 with h3; subst h3
    obtain ⟨e1, e2⟩ := Rt.det h2 h4
    exact ⟨by omega, e2⟩
theorem set_same {G : List Nd} {p : Nat} {d e : Nd} (h : G[p]? = some d) : (G.set p e)[p]? = some e := by
  rw [List.getElem?_set_self (List.getElem?_eq_some_iff.1 h).1]
theorem set_other {G : List Nd} {p q : Nat} (e : Nd) (h : q ≠ p) : (G.set p e)[q]? = G[q]? := by
  rw [List.getElem?_set_ne (fun x => h x.symm)]
/-- The way made shorter at one place: what stands for what stays, and no way gets longer. -/
theorem Rt.halve {G : List Nd} {p q : Nat} {d e : Nd} (hd : G[p]? = some d) (hq : d.up = q) (hne : q ≠ p) (he : G[q]? = some e) :
    ∀ (n x r : Nat), Rt G n x r → ∃ m, m ≤ n ∧ Rt (G.set p { d with up := e.up }) m x r := by
  intro n
  induction n using Nat.strongRecOn with
  | ind n ih =>
    intro x r h
    by_cases hx : x = p
    · subst hx
      cases n with
      | zero =>
        obtain ⟨_, d', h1, h2⟩ := h
        rw [hd] at h1; injection h1 with h1; subst h1; exact absurd (hq.symm.trans h2) hne
      | succ k =>
        obtain ⟨d', h1, h2, h3⟩ := h
        rw [hd] at h1; injection h1 with h1; subst h1
        rw [hq] at h3
        cases k with
        | zero =>
          obtain ⟨rfl, e', h4, h5⟩ := h3
          rw [he] at h4; injection h4 with h4; subst h4
          refine ⟨1, Nat.le_refl _, _, set_same hd, ?_, h5.symm, e, ?_, rfl⟩
          · show e.up ≠ x; rw [h5]; exact hne
          · show (G.set x { d with up := e.up })[e.up]? = some e
            rw [h5, set_other _ hne]; exact he
        | succ j =>
          obtain ⟨e', h4, h5, h6⟩ := h3
          rw [he] at h4; injection h4 with h4; subst h4
          obtain ⟨m, hm, h7⟩ := ih j (by omega) _ _ h6
          refine ⟨m + 1, by omega, _, set_same hd, ?_, h7⟩
          intro hc
          rw [show e.up = x from hc] at h6
          have := (Rt.det h6 (m := j + 2) ⟨d, hd, by rw [hq]; exact hne, by rw [hq]; exact ⟨e, he, h5, by rw [show e.up = x from hc]; exact h6⟩⟩).1
          omega
    · cases n with
      | zero =>
        obtain ⟨rfl, d', h1, h2⟩ := h
        exact ⟨0, Nat.le_refl _, rfl, d', by rw [set_other _ hx]; exact h1, h2⟩
      | succ k =>
        obtain ⟨d', h1, h2, h3⟩ := h
        obtain ⟨m, hm, h4⟩ := ih k (by omega) _ _ h3
        exact ⟨m + 1, by omega, d', by rw [set_other _ hx]; exact h1, h2, h4⟩
/-- One round of find: the next place is nearer. -/
theorem Rt.next {G : List Nd} {p q n r : Nat} {d e : Nd} (hd : G[p]? = some d) (hq : d.up = q) (hne : q ≠ p) (he : G[q]? = some e) (h : Rt G n p r) : ∃ m, m < n ∧ Rt (G.set p { d with up := e.up }) m e.up r := by
  cases n with
  | zero =>
    obtain ⟨_, d', h1, h2⟩ := h
    rw [hd] at h1; injection h1 with h1; subst h1; exact absurd (hq.symm.trans h2) hne
  | succ k =>
    obtain ⟨d', h1, h2, h3⟩ := h
    rw [hd] at h1; injection h1 with h1; subst h1
    rw [hq] at h3
    cases k with
    | zero =>
      obtain ⟨rfl, e', h4, h5⟩ := h3
      rw [he] at h4; injection h4 with h4; subst h4
      exact ⟨0, by omega, h5.symm, e, by rw [h5, set_other _ hne]; exact he, rfl⟩
    | succ j =>
      obtain ⟨e', h4, h5, h6⟩ := h3
      rw [he] at h4; injection h4 with h4; subst h4
      obtain ⟨m, hm, h7⟩ := Rt.halve hd hq hne he j _ _ h6
      exact ⟨m, by omega, h7⟩
/-- A graph, and the same graph with all ways made short. -/
structure Of (G H : List Nd) : Prop where
  len : G.length = H.length
  nd : ∀ p g h, G[p]? = some g → H[p]? = some h → g.kind = h.kind ∧ g.lo = h.lo ∧ g.hi = h.hi ∧ ∃ n, Rt G n p h.up
theorem Of.get {G H : List Nd} (h : Of G H) {p : Nat} {d : Nd} (hd : H[p]? = some d) : ∃ g, G[p]? = some g ∧ g.kind = d.kind ∧ g.lo = d.lo ∧ g.hi = d.hi ∧ ∃ n, Rt G n p d.up := by
  have hl : p < G.length := by rw [h.len]; exact (List.getElem?_eq_some_iff.1 hd).1
  exact ⟨G[p], List.getElem?_eq_getElem hl, h.nd p _ _ (List.getElem?_eq_getElem hl) hd⟩
theorem Of.back {G H : List Nd} (h : Of G H) {p : Nat} {g : Nd} (hg : G[p]? = some g) : ∃ d, H[p]? = some d ∧ g.kind = d.kind ∧ g.lo = d.lo ∧ g.hi = d.hi ∧ ∃ n, Rt G n p d.up := by
  have hl : p < H.length := by rw [← h.len]; exact (List.getElem?_eq_some_iff.1 hg).1
  exact ⟨H[p], List.getElem?_eq_getElem hl, h.nd p _ _ hg (List.getElem?_eq_getElem hl)⟩
/-- Whoever stands for itself in one stands for itself in the other. -/
theorem Of.self {G H : List Nd} (h : Of G H) {p : Nat} {g d : Nd} (hg : G[p]? = some g) (hd : H[p]? = some d) : g.up = p ↔ d.up = p := by
  obtain ⟨_, _, _, n, hr⟩ := h.nd p g d hg hd
  constructor
  · intro e
    exact (Rt.det hr (m := 0) ⟨rfl, g, hg, e⟩).2
  · intro e
    rw [e] at hr
    obtain ⟨g', h1, h2⟩ := Rt.root hr
    rw [hg] at h1; injection h1 with h1; rw [h1]; exact h2
theorem Of.halve {G H : List Nd} (h : Of G H) {p q : Nat} {d e : Nd} (hd : G[p]? = some d) (hq : d.up = q) (hne : q ≠ p) (he : G[q]? = some e) : Of (G.set p { d with up := e.up }) H := by
  refine ⟨by rw [List.length_set]; exact h.len, fun x g' h' hg hh => ?_⟩
  by_cases hx : x = p
  · subst hx
    rw [set_same hd] at hg; injection hg with hg; subst hg
    obtain ⟨h1, h2, h3, n, h4⟩ := h.nd x d h' hd hh
    obtain ⟨m, _, h5⟩ := Rt.halve hd hq hne he n _ _ h4
    exact ⟨h1, h2, h3, m, h5⟩
  · rw [set_other _ hx] at hg
    obtain ⟨h1, h2, h3, n, h4⟩ := h.nd x g' h' hg hh
    obtain ⟨m, _, h5⟩ := Rt.halve hd hq hne he n _ _ h4
    exact ⟨h1, h2, h3, m, h5⟩
/-- One that stood for itself is stood for by another one that does. -/
def link (H : List Nd) (p q : Nat) : List Nd := H.map fun x => if x.up = p then { x with up := q } else x
theorem link_get {H : List Nd} {p q x : Nat} {d : Nd} (h : H[x]? = some d) : (link H p q)[x]? = some (if d.up = p then { d with up := q } else d) := by
  unfold link; rw [List.getElem?_map, h]; rfl
theorem link_back {H : List Nd} {p q x : Nat} {d' : Nd} (h : (link H p q)[x]? = some d') : ∃ d, H[x]? = some d ∧ d' = if d.up = p then { d with up := q } else d := by
  unfold link at h
  rw [List.getElem?_map] at h
  cases hx : H[x]? with
  | none => rw [hx] at h; cases h
  | some d => rw [hx] at h; injection h with h; exact ⟨d, rfl, h.symm⟩
theorem link_len (H : List Nd) (p q : Nat) : (link H p q).length = H.length := by simp [link]
theorem Rt.far {G : List Nd} {p q : Nat} {d : Nd} (hd : G[p]? = some d) (hp : d.up = p) : ∀ (n x r : Nat), Rt G n x r → r ≠ p → Rt (G.set p { d with up := q }) n x r
  | 0, x, r, h, hr => by
    obtain ⟨rfl, e, h1, h2⟩ := h
    exact ⟨rfl, e, by rw [set_other _ hr]; exact h1, h2⟩
  | n + 1, x, r, h, hr => by
    obtain ⟨e, h1, h2, h3⟩ := h
    have hx : x ≠ p := fun hx => by subst hx; rw [hd] at h1; injection h1 with h1; subst h1; exact h2 hp
    exact ⟨e, by rw [set_other _ hx]; exact h1, h2, Rt.far hd hp n _ _ h3 hr⟩
theorem Rt.near {G : List Nd} {p q : Nat} {d e : Nd} (hd : G[p]? = some d) (hp : d.up = p) (he : G[q]? = some e) (hq : e.up = q) (hne : q ≠ p) : ∀ (n x : Nat), Rt G n x p → Rt (G.set p { d with up := q }) (n + 1) x q
  | 0, x, h => by
    obtain ⟨rfl, _⟩ := h
    exact ⟨_, set_same hd, hne, rfl, e, by rw [set_other _ hne]; exact he, hq⟩
  | n + 1, x, h => by
    obtain ⟨f, h1, h2, h3⟩ := h
    have hx : x ≠ p := fun hx => by subst hx; rw [hd] at h1; injection h1 with h1; subst h1; exact h2 hp
    exact ⟨f, by rw [set_other _ hx]; exact h1, h2, Rt.near hd hp he hq hne n _ h3⟩
theorem Of.link {G H : List Nd} (h : Of G H) {p q : Nat} {d e : Nd} (hd : G[p]? = some d) (hp : d.up = p) (he : G[q]? = some e) (hq : e.up = q) (hne : q ≠ p) : Of (G.set p { d with up := q }) (link H p q) := by
  refine ⟨by rw [List.length_set, link_len]; exact h.len, fun x g' h' hg hh => ?_⟩
  obtain ⟨y, hy, rfl⟩ := link_back hh
  have key : ∀ g, G[x]? = some g → ∃ n, Rt (G.set p { d with up := q }) n x (if y.up = p then { y with up := q } else y).up := fun g hg => by
    obtain ⟨_, _, _, n, h4⟩ := h.nd x g y hg hy
    by_cases hu : y.up = p
    · rw [if_pos hu]; rw [hu] at h4; exact ⟨_, Rt.near hd hp he hq hne n _ h4⟩
    · rw [if_neg hu]; exact ⟨_, Rt.far hd hp n _ _ h4 hu⟩
  have flds : (if y.up = p then { y with up := q } else y).kind = y.kind ∧ (if y.up = p then { y with up := q } else y).lo = y.lo ∧ (if y.up = p then { y with up := q } else y).hi = y.hi := by split <;> exact ⟨rfl, rfl, rfl⟩
  by_cases hx : x = p
  · subst hx
    rw [set_same hd] at hg; injection hg with hg; subst hg
    obtain ⟨h1, h2, h3, _⟩ := h.nd x d y hd hy
    exact ⟨h1.trans flds.1.symm, h2.trans flds.2.1.symm, h3.trans flds.2.2.symm, key d hd⟩
  · rw [set_other _ hx] at hg
    obtain ⟨h1, h2, h3, _⟩ := h.nd x g' y hg hy
    exact ⟨h1.trans flds.1.symm, h2.trans flds.2.1.symm, h3.trans flds.2.2.symm, key g' hg⟩
/-- One node more, that stands for itself or is stood for by what a node stands for. -/
theorem Rt.snoc {G : List Nd} {d : Nd} : ∀ {n x r : Nat}, Rt G n x r → Rt (G ++ [d]) n x r
  | 0, x, r, h => by
    obtain ⟨rfl, e, h1, h2⟩ := h
    exact ⟨rfl, e, by rw [List.getElem?_append_left (List.getElem?_eq_some_iff.1 h1).1]; exact h1, h2⟩
  | n + 1, x, r, h => by
    obtain ⟨e, h1, h2, h3⟩ := h
    exact ⟨e, by rw [List.getElem?_append_left (List.getElem?_eq_some_iff.1 h1).1]; exact h1, h2, Rt.snoc h3⟩
theorem Of.snoc_own {G H : List Nd} (h : Of G H) {d : Nd} (hd : d.up = G.length) : Of (G ++ [d]) (H ++ [d]) := by
  refine ⟨by simp [h.len], fun x g' h' hg hh => ?_⟩
  by_cases hx : x < G.length
  · rw [List.getElem?_append_left hx] at hg
    rw [List.getElem?_append_left (by rw [← h.len]; exact hx)] at hh
    obtain ⟨h1, h2, h3, n, h4⟩ := h.nd x g' h' hg hh
    exact ⟨h1, h2, h3, n, h4.snoc⟩
  · have hxl := (List.getElem?_eq_some_iff.1 hg).1
    rw [List.length_append, List.length_singleton] at hxl
    obtain rfl : x = G.length := by omega
    have e1 : (G ++ [d])[G.length]? = some d := by simp
    have e2 : (H ++ [d])[G.length]? = some d := by rw [h.len]; simp
    rw [e1] at hg; injection hg with hg; subst hg
    rw [e2] at hh; injection hh with hh; subst hh
    exact ⟨rfl, rfl, rfl, 0, hd, d, e1, hd⟩
theorem Of.snoc_up {G H : List Nd} (h : Of G H) {p : Nat} {d e : Nd} (he : H[p]? = some e) (hd : d.up = p) : Of (G ++ [d]) (H ++ [{ d with up := e.up }]) := by
  obtain ⟨g, hg, _, _, _, n, hr⟩ := h.get he
  have hpl : p < G.length := (List.getElem?_eq_some_iff.1 hg).1
  refine ⟨by simp [h.len], fun x g' h' hg' hh => ?_⟩
  by_cases hx : x < G.length
  · rw [List.getElem?_append_left hx] at hg'
    rw [List.getElem?_append_left (by rw [← h.len]; exact hx)] at hh
    obtain ⟨h1, h2, h3, n, h4⟩ := h.nd x g' h' hg' hh
    exact ⟨h1, h2, h3, n, h4.snoc⟩
  · have hxl := (List.getElem?_eq_some_iff.1 hg').1
    rw [List.length_append, List.length_singleton] at hxl
    obtain rfl : x = G.length := by omega
    have e1 : (G ++ [d])[G.length]? = some d := by simp
    have e2 : (H ++ [{ d with up := e.up }])[G.length]? = some { d with up := e.up } := by rw [h.len]; simp
    rw [e1] at hg'; injection hg' with hg'; subst hg'
    rw [e2] at hh; injection hh with hh; subst hh
    refine ⟨rfl, rfl, rfl, n + 1, d, e1, by rw [hd]; omega, ?_⟩
    rw [hd]; exact hr.snoc
end Go.Proofs.Ytncdbbjkafgphaa.Ug
namespace Go.Proofs.Ytncdbbjkafgphaa.Ug
open Tp (T)
/-- Static closed types, of the right shape. -/
def Ok (t : T) : Prop := Tp.shp t = true ∧ Tp.without 5 t = true ∧ Tp.without 6 t = true
def Good (v : Nat → T) : Prop := ∀ p, Ok (v p)
/-- The types of a node's kids. -/
def kv (v : Nat → T) (d : Nd) : List T := (List.range' d.lo (d.hi - d.lo)).map v
/-- Types for all nodes, as the graph asks. -/
def Sol (H : List Nd) (v : Nat → T) : Prop := ∀ (p : Nat) (d : Nd), H[p]? = some d → v p = v d.up ∧ (d.kind ≠ 6 → v p = .mk d.kind 0 (kv v d))
/-- All kids' places are below M; what stands for a node is of its kind, if that is no variable. -/
structure Wf (H : List Nd) (M : Nat) : Prop where
  kids : ∀ (p : Nat) (d : Nd), H[p]? = some d → d.lo ≤ d.hi ∧ d.hi ≤ M ∧ Tp.arity d.kind = ((d.hi - d.lo : Nat) : Int) ∧ d.kind ≠ 5
  top : ∀ (p : Nat) (d : Nd), H[p]? = some d → ∃ e, H[d.up]? = some e ∧ e.up = d.up ∧ (d.kind ≠ 6 → e.kind = d.kind)
/-- What stands for a node has the kids that it has, once the pairs of a row are made the same. -/
def Cong (H : List Nd) (O : List (Nat × Nat)) : Prop := ∀ v : Nat → T, (∀ (p : Nat) (d : Nd), H[p]? = some d → v p = v d.up) → (∀ x ∈ O, v x.1 = v x.2) →
  ∀ (p : Nat) (d e : Nd), H[p]? = some d → d.kind ≠ 6 → H[d.up]? = some e → kv v d = kv v e
theorem kv_len (v : Nat → T) (d : Nd) : (kv v d).length = d.hi - d.lo := by simp [kv]
theorem kv_get (v : Nat → T) (d : Nd) (i : Nat) (h : i < (kv v d).length) : (kv v d)[i] = v (d.lo + i) := by simp [kv]
theorem kv_up (v : Nat → T) (d : Nd) (q : Nat) : kv v { d with up := q } = kv v d := rfl
theorem kv_if (v : Nat → T) (d : Nd) (p q : Nat) : kv v (if d.up = p then { d with up := q } else d) = kv v d := by split <;> rfl
theorem kind_if (d : Nd) (p q : Nat) : (if d.up = p then { d with up := q } else d).kind = d.kind := by split <;> rfl
theorem lo_if (d : Nd) (p q : Nat) : (if d.up = p then { d with up := q } else d).lo = d.lo := by split <;> rfl
theorem hi_if (d : Nd) (p q : Nat) : (if d.up = p then { d with up := q } else d).hi = d.hi := by split <;> rfl
theorem up_if (d : Nd) (p q : Nat) : (if d.up = p then { d with up := q } else d).up = if d.up = p then q else d.up := by split <;> rfl
/-- The pairs of the first k kids, the last of them on top. -/
def kp (m n : Nd) (k : Nat) : List (Nat × Nat) := ((List.range k).map fun i => (m.lo + i, n.lo + i)).reverse
theorem kp_succ (m n : Nd) (k : Nat) : kp m n (k + 1) = (m.lo + k, n.lo + k) :: kp m n k := by simp [kp, List.range_succ]
theorem kp_len (m n : Nd) (k : Nat) : (kp m n k).length = k := by simp [kp]
theorem kp_all {v : Nat → T} {m n : Nd} (h : m.hi - m.lo = n.hi - n.lo) : (∀ x ∈ kp m n (m.hi - m.lo), v x.1 = v x.2) ↔ kv v m = kv v n := by
  constructor
  · intro hx
    refine List.ext_getElem (by rw [kv_len, kv_len, h]) fun i h1 h2 => ?_
    rw [kv_get, kv_get]
    rw [kv_len] at h1
    exact hx (m.lo + i, n.lo + i) (by simp only [kp, List.mem_reverse, List.mem_map, List.mem_range]; exact ⟨i, h1, rfl⟩)
  · intro e x hx
    simp only [kp, List.mem_reverse, List.mem_map, List.mem_range] at hx
    obtain ⟨i, hi, rfl⟩ := hx
    have h1 : i < (kv v m).length := by rw [kv_len]; exact hi
    have h2 : i < (kv v n).length := by rw [kv_len, ← h]; exact hi
    have : (kv v m)[i] = (kv v n)[i] := by simp only [e]
    rw [kv_get, kv_get] at this
    exact this
/-- Between two rounds: what is found so far, and the pairs that are still to be made the same. -/
structure Un (H0 : List Nd) (a b : Nat) (H : List Nd) (O : List (Nat × Nat)) : Prop where
  wf : Wf H H.length
  cong : Cong H O
  pl : ∀ x ∈ O, x.1 < H.length ∧ x.2 < H.length
  len : H.length = H0.length
  sol : ∀ v, Good v → ((Sol H0 v ∧ v a = v b) ↔ (Sol H v ∧ ∀ x ∈ O, v x.1 = v x.2))
  keep : ∀ (p : Nat) (d : Nd), H0[p]? = some d → ∃ d', H[p]? = some d'
theorem Un.start {H : List Nd} {a b : Nat} (hw : Wf H H.length) (hc : Cong H []) (ha : a < H.length) (hb : b < H.length) : Un H a b H [(a, b)] :=
  ⟨hw, fun v h1 _ => hc v h1 (fun x hx => by cases hx), fun x hx => by obtain rfl := List.mem_singleton.1 hx; exact ⟨ha, hb⟩, rfl,
    fun v _ => ⟨fun h => ⟨h.1, fun x hx => by obtain rfl := List.mem_singleton.1 hx; exact h.2⟩, fun h => ⟨h.1, h.2 (a, b) (by simp)⟩⟩, fun _ d h => ⟨d, h⟩⟩
/-- What stands for the nodes of a pair has the pair's types. -/
theorem sol_up {H : List Nd} {v : Nat → T} (h : Sol H v) {x : Nat} {d : Nd} (hd : H[x]? = some d) : v x = v d.up := (h x d hd).1
theorem Un.skip {H0 H : List Nd} {a b x y : Nat} {O : List (Nat × Nat)} {d e : Nd} (h : Un H0 a b H ((x, y) :: O)) (hd : H[x]? = some d) (he : H[y]? = some e) (heq : d.up = e.up) : Un H0 a b H O := by
  have hv : ∀ v : Nat → T, (∀ (p : Nat) (d : Nd), H[p]? = some d → v p = v d.up) → v x = v y := fun v hv => by rw [hv x d hd, hv y e he, heq]
  refine ⟨h.wf, fun v h1 h2 => h.cong v h1 fun z hz => ?_, fun z hz => h.pl z (List.mem_cons_of_mem _ hz), h.len, fun v hg => ?_, h.keep⟩
  · rcases List.mem_cons.1 hz with rfl | hz
    · exact hv v h1
    · exact h2 z hz
  · rw [h.sol v hg]
    exact ⟨fun h => ⟨h.1, fun z hz => h.2 z (List.mem_cons_of_mem _ hz)⟩, fun h => ⟨h.1, fun z hz => by
      rcases List.mem_cons.1 hz with rfl | hz
      · exact hv v (fun p d hd => (h.1 p d hd).1)
      · exact h.2 z hz⟩⟩
/-- The links that stay say as much as those that were there, and that the two are the same. -/
theorem link_resp {H : List Nd} {p q : Nat} {d : Nd} (hd : H[p]? = some d) (hp : d.up = p) (v : Nat → T) :
    (∀ (x : Nat) (f : Nd), (link H p q)[x]? = some f → v x = v f.up) ↔ (∀ (x : Nat) (f : Nd), H[x]? = some f → v x = v f.up) ∧ v p = v q := by
  constructor
  · intro h
    have hpq : v p = v q := by
      have := h p _ (link_get hd)
      rw [up_if, if_pos hp] at this; exact this
    refine ⟨fun x f hf => ?_, hpq⟩
    have := h x _ (link_get hf)
    rw [up_if] at this
    split at this
    · rename_i hu; rw [this, ← hpq, hu]
    · exact this
  · rintro ⟨h, hpq⟩ x f hf
    obtain ⟨g, hg, rfl⟩ := link_back hf
    rw [up_if]
    have := h x g hg
    split
    · rename_i hu; rw [this, hu, hpq]
    · exact this
theorem link_wf {H : List Nd} {M p q : Nat} {d e : Nd} (h : Wf H M) (hd : H[p]? = some d) (he : H[q]? = some e) (hq : e.up = q) (hne : q ≠ p) (hk : d.kind = 6 ∨ d.kind = e.kind) : Wf (link H p q) M := by
  refine ⟨fun x f hf => ?_, fun x f hf => ?_⟩
  · obtain ⟨g, hg, rfl⟩ := link_back hf
    rw [kind_if, lo_if, hi_if]
    exact h.kids x g hg
  · obtain ⟨g, hg, rfl⟩ := link_back hf
    rw [kind_if, up_if]
    obtain ⟨t, ht, ht1, ht2⟩ := h.top x g hg
    by_cases hu : g.up = p
    · rw [if_pos hu]
      refine ⟨_, link_get he, by rw [up_if, hq, if_neg hne], fun h6 => ?_⟩
      rw [kind_if]
      rw [hu, hd] at ht; injection ht with ht; subst ht
      rcases hk with hk | hk
      · exact absurd ((ht2 h6).symm.trans hk) h6
      · rw [← hk]; exact ht2 h6
    · rw [if_neg hu]
      refine ⟨_, link_get ht, by rw [up_if, ht1, if_neg hu], fun h6 => ?_⟩
      rw [kind_if]; exact ht2 h6
/-- Types as the linked graph asks: as the graph asked, and the two the same. -/
theorem link_sol {H : List Nd} {p q : Nat} {d : Nd} (hd : H[p]? = some d) (hp : d.up = p) (v : Nat → T) : Sol (link H p q) v ↔ Sol H v ∧ v p = v q := by
  have hr := link_resp (q := q) hd hp v
  constructor
  · intro h
    obtain ⟨h1, h2⟩ := hr.1 fun x f hf => (h x f hf).1
    refine ⟨fun x f hf => ⟨h1 x f hf, fun h6 => ?_⟩, h2⟩
    have := (h x _ (link_get hf)).2
    rw [kind_if, kv_if] at this
    exact this h6
  · rintro ⟨h1, h2⟩ x f hf
    refine ⟨hr.2 ⟨fun x f hf => (h1 x f hf).1, h2⟩ x f hf, ?_⟩
    obtain ⟨g, hg, rfl⟩ := link_back hf
    rw [kind_if, kv_if]
    exact (h1 x g hg).2
theorem link_keep {H0 H : List Nd} {p q : Nat} (h : ∀ (p : Nat) (d : Nd), H0[p]? = some d → ∃ d', H[p]? = some d') : ∀ (x : Nat) (d : Nd), H0[x]? = some d → ∃ d', (link H p q)[x]? = some d' := fun x d hd => by
  obtain ⟨d', h1⟩ := h x d hd
  exact ⟨_, link_get h1⟩
/-- The first is a variable that stands for itself: the second stands for it. -/
theorem Un.var {H0 H : List Nd} {a b x y p q : Nat} {O : List (Nat × Nat)} {dx dy d e : Nd} (h : Un H0 a b H ((x, y) :: O)) (hx : H[x]? = some dx) (hy : H[y]? = some dy) (hd : H[p]? = some d) (hp : d.up = p) (he : H[q]? = some e) (hq : e.up = q) (hne : q ≠ p)
    (hxy : (dx.up = p ∧ dy.up = q) ∨ (dx.up = q ∧ dy.up = p)) (h6 : d.kind = 6) : Un H0 a b (link H p q) O := by
  have hxy2 : ∀ v : Nat → T, (∀ (p : Nat) (d : Nd), H[p]? = some d → v p = v d.up) → ((v x = v y) ↔ v p = v q) := fun v hv => by
    rw [hv x dx hx, hv y dy hy]
    rcases hxy with ⟨h1, h2⟩ | ⟨h1, h2⟩
    · rw [h1, h2]
    · rw [h1, h2]; exact eq_comm
  refine ⟨by rw [link_len]; exact link_wf h.wf hd he hq hne (.inl h6), fun v h1 h2 => ?_, fun z hz => by rw [link_len]; exact h.pl z (List.mem_cons_of_mem _ hz), (link_len _ _ _).trans h.len, fun v hg => ?_, link_keep h.keep⟩
  · obtain ⟨h3, h4⟩ := (link_resp hd hp v).1 h1
    have hc := h.cong v h3 fun z hz => by
      rcases List.mem_cons.1 hz with rfl | hz
      · exact (hxy2 v h3).2 h4
      · exact h2 z hz
    intro z f g hf hk hg
    obtain ⟨f', hf', rfl⟩ := link_back hf
    rw [kind_if] at hk
    rw [up_if] at hg
    rw [kv_if]
    by_cases hu : f'.up = p
    · obtain ⟨t, ht, _, ht2⟩ := h.wf.top z f' hf'
      rw [hu, hd] at ht; injection ht with ht; subst ht
      exact absurd ((ht2 hk).symm.trans h6) hk
    · rw [if_neg hu] at hg
      obtain ⟨g', hg', rfl⟩ := link_back hg
      rw [kv_if]
      exact hc z f' g' hf' hk hg'
  · rw [h.sol v hg, link_sol hd hp v]
    constructor
    · rintro ⟨h1, h2⟩
      exact ⟨⟨h1, (hxy2 v fun p d hd => (h1 p d hd).1).1 (h2 (x, y) (by simp))⟩, fun z hz => h2 z (List.mem_cons_of_mem _ hz)⟩
    · rintro ⟨⟨h1, h3⟩, h2⟩
      refine ⟨h1, fun z hz => ?_⟩
      rcases List.mem_cons.1 hz with rfl | hz
      · exact (hxy2 v fun p d hd => (h1 p d hd).1).2 h3
      · exact h2 z hz
/-- Two nodes of different kinds, neither a variable: no types. -/
theorem Un.no {H0 H : List Nd} {a b x y p q : Nat} {O : List (Nat × Nat)} {dx dy d e : Nd} (h : Un H0 a b H ((x, y) :: O)) (hx : H[x]? = some dx) (hy : H[y]? = some dy) (hd : H[p]? = some d) (he : H[q]? = some e)
    (h1 : dx.up = p) (h2 : dy.up = q) (hd6 : d.kind ≠ 6) (he6 : e.kind ≠ 6) (hne : d.kind ≠ e.kind) (v : Nat → T) (hg : Good v) : ¬ (Sol H0 v ∧ v a = v b) := by
  rw [h.sol v hg]
  rintro ⟨h3, h4⟩
  have h5 := h4 (x, y) (by simp)
  dsimp only at h5
  rw [sol_up h3 hx, sol_up h3 hy, h1, h2, (h3 p d hd).2 hd6, (h3 q e he).2 he6] at h5
  injection h5 with h5
  exact hne h5
/-- Two nodes of one kind: the first stands for the second, and their kids are to be made the same. -/
theorem Un.node {H0 H : List Nd} {a b x y p q : Nat} {O : List (Nat × Nat)} {dx dy d e : Nd} (h : Un H0 a b H ((x, y) :: O)) (hx : H[x]? = some dx) (hy : H[y]? = some dy) (hd : H[p]? = some d) (hp : d.up = p) (he : H[q]? = some e) (hq : e.up = q) (hne : p ≠ q)
    (h1 : dx.up = p) (h2 : dy.up = q) (hd6 : d.kind ≠ 6) (hk : d.kind = e.kind) : d.hi - d.lo = e.hi - e.lo ∧ Un H0 a b (link H q p) (kp d e (d.hi - d.lo) ++ O) := by
  obtain ⟨kd1, kd2, kd3, _⟩ := h.wf.kids p d hd
  obtain ⟨ke1, ke2, ke3, _⟩ := h.wf.kids q e he
  have hl : d.hi - d.lo = e.hi - e.lo := by rw [hk] at kd3; omega
  have hxy2 : ∀ v : Nat → T, (∀ (p : Nat) (d : Nd), H[p]? = some d → v p = v d.up) → ((v x = v y) ↔ v p = v q) := fun v hv => by
    rw [hv x dx hx, hv y dy hy, h1, h2]
  refine ⟨hl, by rw [link_len]; exact link_wf h.wf he hd hp hne (.inr hk.symm), fun v g1 g2 => ?_, fun z hz => ?_, (link_len _ _ _).trans h.len, fun v hg => ?_, link_keep h.keep⟩
  · obtain ⟨h3, h4⟩ := (link_resp he hq v).1 g1
    have hkv : kv v d = kv v e := (kp_all hl).1 fun z hz => g2 z (List.mem_append_left _ hz)
    have hc := h.cong v h3 fun z hz => by
      rcases List.mem_cons.1 hz with rfl | hz
      · exact (hxy2 v h3).2 h4.symm
      · exact g2 z (List.mem_append_right _ hz)
    intro z f g hf hkf hg
    obtain ⟨f', hf', rfl⟩ := link_back hf
    rw [kind_if] at hkf
    rw [up_if] at hg
    rw [kv_if]
    by_cases hu : f'.up = q
    · rw [if_pos hu] at hg
      obtain ⟨g', hg', rfl⟩ := link_back hg
      rw [kv_if]
      rw [hd] at hg'; injection hg' with hg'; subst hg'
      rw [hkv]
      exact hc z f' e hf' hkf (by rw [hu]; exact he)
    · rw [if_neg hu] at hg
      obtain ⟨g', hg', rfl⟩ := link_back hg
      rw [kv_if]
      exact hc z f' g' hf' hkf hg'
  · rw [link_len]
    rcases List.mem_append.1 hz with hz | hz
    · simp only [kp, List.mem_reverse, List.mem_map, List.mem_range] at hz
      obtain ⟨i, hi, rfl⟩ := hz
      exact ⟨by dsimp only; omega, by dsimp only; omega⟩
    · exact h.pl z (List.mem_cons_of_mem _ hz)
  · rw [h.sol v hg, link_sol he hq v]
    constructor
    · rintro ⟨g1, g2⟩
      have hpq := (hxy2 v fun p d hd => (g1 p d hd).1).1 (g2 (x, y) (by simp))
      have hkv : kv v d = kv v e := by
        rw [(g1 p d hd).2 hd6, (g1 q e he).2 (by rw [← hk]; exact hd6)] at hpq
        injection hpq
      exact ⟨⟨g1, hpq.symm⟩, fun z hz => (List.mem_append.1 hz).elim ((kp_all hl).2 hkv z) fun hz => g2 z (List.mem_cons_of_mem _ hz)⟩
    · rintro ⟨⟨g1, g3⟩, g2⟩
      refine ⟨g1, fun z hz => ?_⟩
      rcases List.mem_cons.1 hz with rfl | hz
      · exact (hxy2 v fun p d hd => (g1 p d hd).1).2 g3.symm
      · exact g2 z (List.mem_append_right _ hz)
/-- Does a node stand for itself? -/
def own (H : List Nd) (i : Nat) : Bool := (H[i]?).any fun d => decide (d.up = i)
theorem own_iff {H : List Nd} {i : Nat} : own H i = true ↔ ∃ d, H[i]? = some d ∧ d.up = i := by
  unfold own
  cases h : H[i]? with
  | none => simp
  | some d => simp
/-- How many stand for themselves. -/
def roots (H : List Nd) : Nat := (List.range H.length).countP (own H)
theorem roots_le (H : List Nd) : roots H ≤ H.length := by
  unfold roots
  exact Nat.le_trans List.countP_le_length (by simp)
theorem countP_less {P Q : Nat → Bool} {p : Nat} (hpq : ∀ i, Q i = true → P i = true) (hp : P p = true) (hq : Q p = false) : ∀ L : List Nat, p ∈ L → L.countP Q < L.countP P
  | [], h => by cases h
  | x :: r, h => by
    have hmono : r.countP Q ≤ r.countP P := List.countP_mono_left fun i _ => hpq i
    rcases List.mem_cons.1 h with rfl | h
    · rw [List.countP_cons_of_pos hp, List.countP_cons_of_neg (by simp [hq])]; omega
    · have ih := countP_less hpq hp hq r h
      rw [List.countP_cons, List.countP_cons]
      have : (if Q x = true then 1 else 0) ≤ (if P x = true then 1 else 0) := by
        split
        · rename_i hx; rw [if_pos (hpq x hx)]; exact Nat.le_refl _
        · exact Nat.zero_le _
      omega
theorem roots_link {H : List Nd} {p q : Nat} {d e : Nd} (hd : H[p]? = some d) (hp : d.up = p) (he : H[q]? = some e) (hq : e.up = q) (hne : q ≠ p) : roots (link H p q) < roots H := by
  unfold roots
  rw [link_len]
  refine countP_less (p := p) (fun i hi => ?_) (own_iff.2 ⟨d, hd, hp⟩) ?_ _ (List.mem_range.2 (List.getElem?_eq_some_iff.1 hd).1)
  · obtain ⟨f, hf, hu⟩ := own_iff.1 hi
    obtain ⟨g, hg, rfl⟩ := link_back hf
    rw [up_if] at hu
    split at hu
    · rename_i h1
      subst hu
      exact own_iff.2 ⟨e, he, hq⟩
    · exact own_iff.2 ⟨g, hg, hu⟩
  · cases hb : own (link H p q) p with
    | false => rfl
    | true =>
      obtain ⟨f, hf, hu⟩ := own_iff.1 hb
      rw [link_get hd] at hf; injection hf with hf; subst hf
      rw [up_if, if_pos hp] at hu
      exact absurd hu hne
end Go.Proofs.Ytncdbbjkafgphaa.Ug
namespace Go.Proofs.Ytncdbbjkafgphaa.Ug
open Tp (T)
theorem shps_get : ∀ {l : List T} {i : Nat} (h : i < l.length), Tp.shps l = true → Tp.shp l[i] = true
  | t :: r, 0, _, h => by simp only [Tp.shps, Bool.and_eq_true] at h; exact h.1
  | t :: r, i + 1, hi, h => by simp only [Tp.shps, Bool.and_eq_true] at h; exact shps_get (l := r) (i := i) (by simpa using hi) h.2
theorem withouts_get {k : Int} : ∀ {l : List T} {i : Nat} (h : i < l.length), Tp.withouts k l = true → Tp.without k l[i] = true
  | t :: r, 0, _, h => by simp only [Tp.withouts, Bool.and_eq_true] at h; exact h.1
  | t :: r, i + 1, hi, h => by simp only [Tp.withouts, Bool.and_eq_true] at h; exact withouts_get (l := r) (i := i) (by simpa using hi) h.2
theorem rights_get : ∀ {l : List T} {i : Nat} (h : i < l.length), Tp.rights l = true → Tp.right l[i] = true
  | t :: r, 0, _, h => (Tp.rights_cons h).1
  | t :: r, i + 1, hi, h => rights_get (l := r) (i := i) (by simpa using hi) (Tp.rights_cons h).2
theorem size_get : ∀ {l : List T} {i : Nat} (h : i < l.length), Tp.size l[i] ≤ Tp.sizes l
  | t :: r, 0, _ => by simp [Tp.sizes]
  | t :: r, i + 1, hi => by have := size_get (l := r) (i := i) (by simpa using hi); simp only [Tp.sizes, List.getElem_cons_succ]; omega
theorem belows_all : ∀ (l m : List T), l.length = m.length → (Tp.belows l m = true ↔ ∀ i (h : i < l.length) (h' : i < m.length), Tp.below l[i] m[i] = true)
  | [], [], _ => by simp [Tp.belows]
  | [], _ :: _, h => by simp at h
  | _ :: _, [], h => by simp at h
  | a :: r, b :: s, h => by
    simp only [Tp.belows, Bool.and_eq_true]
    rw [belows_all r s (by simpa using h)]
    constructor
    · rintro ⟨h1, h2⟩ i hi hi'
      cases i with
      | zero => exact h1
      | succ i => exact h2 i (by simpa using hi) (by simpa using hi')
    · intro hx
      exact ⟨hx 0 (by simp) (by simp), fun i hi hi' => hx (i + 1) (by simpa using hi) (by simpa using hi')⟩
theorem apps_map (s : Int → T) : ∀ l : List T, Tp.apps s l = l.map (Tp.app s)
  | [] => rfl
  | t :: r => by simp [Tp.apps, apps_map s r]
/-- Types for the variables of both types. -/
abbrev Sb := Int → Int → T
def Clos (s : Sb) : Prop := ∀ o, Tp.Clo (s o)
/-- Where a variable stands first. -/
abbrev Fi := Int → Int → Option Nat
/-- Types for all nodes and for the variables, as the graph asks. -/
def Sat (H : List Nd) (F : Fi) (s : Sb) (v : Nat → T) : Prop := Sol H v ∧ ∀ o n p, F o n = some p → v p = s o n
theorem kids_ok {k n : Int} {l : List T} (h : Ok (.mk k n l)) : (∀ i (hi : i < l.length), Ok l[i]) ∧ k ≠ 6 ∧ n = 0 ∧ Tp.arity k = l.length := by
  obtain ⟨h1, h2, h3⟩ := h
  have hs := Tp.shp_node h1
  simp only [Tp.without, Bool.and_eq_true, Bool.not_eq_true', decide_eq_false_iff_not] at h2 h3
  exact ⟨fun i hi => ⟨shps_get hi hs.2.2, withouts_get hi h2.2, withouts_get hi h3.2⟩, h3.1, hs.2.1 h3.1, hs.1⟩
/-- With k nodes laid; l: the types of the nodes, so far as they are known. -/
structure Add (H0 : List Nd) (F0 : Fi) (o : Int) (t : T) (k : Nat) (l : List T) (H : List Nd) (F : Fi) : Prop where
  len : H.length = H0.length + k
  kl : k ≤ l.length
  root : l[0]? = some t
  right : ∀ x ∈ l, Tp.right x = true
  old : ∀ (p : Nat) (d : Nd), H0[p]? = some d → H[p]? = some d
  wf : Wf H (H0.length + l.length)
  cong : Cong H []
  ext : ∀ a n p, F0 a n = some p → F a n = some p
  fv : ∀ a n p, F a n = some p → p < H.length
  nd : ∀ (j : Nat) (x : T), j < k → l[j]? = some x → ∃ d : Nd, H[H0.length + j]? = some d ∧
    (x.kind = 6 → ∃ (p : Nat) (e : Nd), F o x.num = some p ∧ H[p]? = some e ∧ d.up = e.up) ∧
    (x.kind ≠ 5 → x.kind ≠ 6 → d.kind = x.kind ∧ ∃ f : Nat, d.lo = H0.length + f ∧ d.hi = H0.length + f + x.kids.length ∧ ∀ (i : Nat) (y : T), x.kids[i]? = some y → l[f + i]? = some y)
  fill : ∀ s v X, Clos s → Good v → Sat H0 F0 s v → Ok X → Tp.below X (Tp.app (s o) t) = true → ∃ v', Good v' ∧ Sat H F s v' ∧ v' H0.length = X ∧ (∀ p, p < H0.length → v' p = v p) ∧
    ∀ (j : Nat) (x : T), l[j]? = some x → Tp.below (v' (H0.length + j)) (Tp.app (s o) x) = true
  /-- How much is still to be laid. -/
  size : k + Tp.sizes (l.drop k) = Tp.size t
theorem Add.start {H : List Nd} {F : Fi} {o : Int} {t : T} (hw : Wf H H.length) (hc : Cong H []) (hf : ∀ a n p, F a n = some p → p < H.length) (ht : Tp.right t = true) : Add H F o t 0 [t] H F := by
  refine ⟨rfl, by simp, rfl, fun x hx => by obtain rfl := List.mem_singleton.1 hx; exact ht, fun _ _ h => h, ⟨fun p d hd => ?_, hw.top⟩, hc, fun _ _ _ h => h, hf, fun j x hj => by omega, fun s v X hs hv hsat hX hb => ?_, by simp [Tp.sizes]⟩
  · obtain ⟨h1, h2, h3⟩ := hw.kids p d hd
    exact ⟨h1, by simp only [List.length_singleton]; omega, h3⟩
  · refine ⟨fun p => if p = H.length then X else v p, fun p => ?_, ⟨fun p d hd => ?_, fun a n p hp => ?_⟩, if_pos rfl, fun p hp => if_neg (by omega), fun j x hx => ?_⟩
    · dsimp only
      split
      · exact hX
      · exact hv p
    · have hp : p < H.length := (List.getElem?_eq_some_iff.1 hd).1
      obtain ⟨e, he, _⟩ := hw.top p d hd
      have hu : d.up < H.length := (List.getElem?_eq_some_iff.1 he).1
      obtain ⟨k1, k2, _⟩ := hw.kids p d hd
      have hkv : kv (fun p => if p = H.length then X else v p) d = kv v d := by
        unfold kv
        refine List.map_congr_left fun i hi => ?_
        rw [List.mem_range'_1] at hi
        exact if_neg (by omega)
      rw [hkv]
      dsimp only
      rw [if_neg (by omega), if_neg (by omega)]
      exact hsat.1 p d hd
    · have := hf a n p hp
      dsimp only
      rw [if_neg (by omega)]
      exact hsat.2 a n p hp
    · cases j with
      | zero =>
        simp only [List.getElem?_cons_zero, Option.some.injEq] at hx
        subst hx
        dsimp only
        rw [if_pos (by omega)]; exact hb
      | succ j => simp at hx
/-- What the next node is. -/
structure Nx (H0 : List Nd) (o : Int) (k : Nat) (l : List T) (H : List Nd) (F : Fi) (x : T) (d : Nd) (F' : Fi) : Prop where
  at' : l[k]? = some x
  lo : d.lo = H0.length + l.length
  hi : d.hi = H0.length + l.length + x.kids.length
  kind : d.kind = if x.kind = 5 then 6 else x.kind
  /-- A variable that stood somewhere; one that stood nowhere yet; no variable. -/
  up : (x.kind = 6 ∧ ∃ (p : Nat) (e : Nd), F o x.num = some p ∧ H[p]? = some e ∧ d.up = e.up ∧ F' = F) ∨
    (x.kind = 6 ∧ F o x.num = none ∧ d.up = H.length ∧ F' = fun a n => if a = o ∧ n = x.num then some H.length else F a n) ∨
    (x.kind ≠ 6 ∧ d.up = H.length ∧ F' = F)
theorem snoc_new (H : List Nd) (d : Nd) : (H ++ [d])[H.length]? = some d := by simp
theorem snoc_old {H : List Nd} {d e : Nd} {p : Nat} (h : H[p]? = some e) : (H ++ [d])[p]? = some e := by
  rw [List.getElem?_append_left (List.getElem?_eq_some_iff.1 h).1]; exact h
theorem snoc_cases {H : List Nd} {d e : Nd} {p : Nat} (h : (H ++ [d])[p]? = some e) : H[p]? = some e ∨ (p = H.length ∧ e = d) := by
  have hl := (List.getElem?_eq_some_iff.1 h).1
  rw [List.length_append, List.length_singleton] at hl
  by_cases hp : p < H.length
  · rw [List.getElem?_append_left hp] at h; exact .inl h
  · obtain rfl : p = H.length := by omega
    rw [snoc_new] at h; injection h with h
    exact .inr ⟨rfl, h.symm⟩
theorem sizes_drop {l : List T} {k : Nat} {x : T} (h : l[k]? = some x) : Tp.sizes (l.drop k) = Tp.size x + Tp.sizes (l.drop (k + 1)) := by
  obtain ⟨hl, rfl⟩ := List.getElem?_eq_some_iff.1 h
  rw [List.drop_eq_getElem_cons hl, Tp.sizes]
theorem Add.step {H0 : List Nd} {F0 : Fi} {o : Int} {t : T} {k : Nat} {l : List T} {H : List Nd} {F : Fi} {x : T} {d : Nd} {F' : Fi} (h : Add H0 F0 o t k l H F) (hx : Nx H0 o k l H F x d F') : Add H0 F0 o t (k + 1) (l ++ x.kids) (H ++ [d]) F' := by
  have hkl : k < l.length := (List.getElem?_eq_some_iff.1 hx.at').1
  have hxm : x ∈ l := List.mem_of_getElem? hx.at'
  have hxr := h.right x hxm
  have hrn : Tp.arity x.kind = x.kids.length ∧ Tp.rights x.kids = true ∧ 0 ≤ x.num ∧ x.num ≤ 1048576 ∧ (x.kind ≠ 6 → x.num = 0) := by cases x; exact Tp.right_node hxr
  have hleaf : x.kind = 5 ∨ x.kind = 6 → x.kids = [] := fun hk => by
    have := hrn.1
    refine List.eq_nil_of_length_eq_zero ?_
    rcases hk with hk | hk <;> · rw [hk] at this; simp [Tp.arity] at this; omega
  have hdi : d.hi - d.lo = x.kids.length := by rw [hx.hi, hx.lo]; omega
  have htop : ∃ e, (H ++ [d])[d.up]? = some e ∧ e.up = d.up ∧ (d.kind ≠ 6 → e = d) := by
    rcases hx.up with ⟨h6, p, e, h1, h2, h3, _⟩ | ⟨_, _, h3, _⟩ | ⟨_, h3, _⟩
    · obtain ⟨f, hf, hf1, _⟩ := h.wf.top p e h2
      exact ⟨f, by rw [h3]; exact snoc_old hf, by rw [h3]; exact hf1, fun hn => absurd (by rw [hx.kind, h6]; rfl) hn⟩
    · exact ⟨d, by rw [h3]; exact snoc_new _ _, rfl, fun _ => rfl⟩
    · exact ⟨d, by rw [h3]; exact snoc_new _ _, rfl, fun _ => rfl⟩
  have hF : ∀ a n p, F a n = some p → F' a n = some p := fun a n p hp => by
    rcases hx.up with ⟨_, _, _, _, _, _, rfl⟩ | ⟨_, hno, _, rfl⟩ | ⟨_, _, rfl⟩
    · exact hp
    · dsimp only
      rw [if_neg (by rintro ⟨rfl, rfl⟩; rw [hno] at hp; cases hp)]; exact hp
    · exact hp
  refine ⟨by rw [List.length_append, List.length_singleton, h.len]; omega, by rw [List.length_append]; omega, ?_, fun y hy => ?_, fun p e he => snoc_old (h.old p e he), ⟨fun p e he => ?_, fun p e he => ?_⟩, fun v h1 _ p e f he hk hf => ?_, fun a n p hp => hF a n p (h.ext a n p hp), fun a n p hp => ?_, fun j y hj hy => ?_, fun s v X hs hv hsat hX hb => ?_, ?_⟩
  · rw [List.getElem?_append_left (by omega)]; exact h.root
  · rcases List.mem_append.1 hy with hy | hy
    · exact h.right y hy
    · obtain ⟨i, hi, rfl⟩ := List.getElem_of_mem hy
      exact rights_get hi hrn.2.1
  · rcases snoc_cases he with he | ⟨rfl, rfl⟩
    · obtain ⟨h1, h2, h3⟩ := h.wf.kids p e he
      exact ⟨h1, by rw [List.length_append]; omega, h3⟩
    · refine ⟨by rw [hx.hi, hx.lo]; omega, by rw [hx.hi, List.length_append]; omega, ?_, ?_⟩
      · rw [hdi, hx.kind, ← hrn.1]
        split
        · rename_i h5; rw [h5]; rfl
        · rfl
      · rw [hx.kind]
        split
        · decide
        · assumption
  · rcases snoc_cases he with he | ⟨rfl, rfl⟩
    · obtain ⟨f, hf, h1, h2⟩ := h.wf.top p e he
      exact ⟨f, snoc_old hf, h1, h2⟩
    · obtain ⟨f, hf, h1, h2⟩ := htop
      exact ⟨f, hf, h1, fun hk => by rw [h2 hk]⟩
  · rcases snoc_cases he with he | ⟨rfl, rfl⟩
    · obtain ⟨g, hg, _⟩ := h.wf.top p e he
      have := snoc_old (d := d) hg
      rw [hf] at this; injection this with this; subst this
      exact h.cong v (fun p d hd => h1 p d (snoc_old hd)) (fun _ hz => by cases hz) p e f he hk hg
    · obtain ⟨g, hg, _, h2⟩ := htop
      rw [hf] at hg; injection hg with hg; subst hg
      rw [h2 hk]
  · rw [List.length_append, List.length_singleton]
    rcases hx.up with ⟨_, _, _, _, _, _, rfl⟩ | ⟨_, hno, _, rfl⟩ | ⟨_, _, rfl⟩
    · have := h.fv a n p hp; omega
    · dsimp only at hp
      split at hp
      · injection hp with hp; omega
      · have := h.fv a n p hp; omega
    · have := h.fv a n p hp; omega
  · by_cases hjk : j < k
    · rw [List.getElem?_append_left (by omega)] at hy
      obtain ⟨e, he, h1, h2⟩ := h.nd j y hjk hy
      refine ⟨e, snoc_old he, fun h6 => ?_, fun h5 h6 => ?_⟩
      · obtain ⟨p, f, g1, g2, g3⟩ := h1 h6
        exact ⟨p, f, hF _ _ _ g1, snoc_old g2, g3⟩
      · obtain ⟨g1, f, g2, g3, g4⟩ := h2 h5 h6
        refine ⟨g1, f, g2, g3, fun i z hz => ?_⟩
        have := g4 i z hz
        rw [List.getElem?_append_left (List.getElem?_eq_some_iff.1 this).1]; exact this
    · obtain rfl : j = k := by omega
      rw [List.getElem?_append_left hkl, hx.at'] at hy
      injection hy with hy; subst hy
      refine ⟨d, by rw [← h.len]; exact snoc_new _ _, fun h6 => ?_, fun h5 h6 => ?_⟩
      · rcases hx.up with ⟨_, p, e, h1, h2, h3, rfl⟩ | ⟨_, hno, h3, rfl⟩ | ⟨h0, _⟩
        · exact ⟨p, e, h1, snoc_old h2, h3⟩
        · exact ⟨H.length, d, by simp, snoc_new _ _, rfl⟩
        · exact absurd h6 h0
      · refine ⟨by rw [hx.kind, if_neg h5], l.length, hx.lo, hx.hi, fun i z hz => ?_⟩
        rw [List.getElem?_append_right (by omega), Nat.add_sub_cancel_left]; exact hz
  · obtain ⟨v1, hv1, hsat1, hr1, ho1, hb1⟩ := h.fill s v X hs hv hsat hX hb
    have hbk := hb1 k x hx.at'
    rw [← h.len] at hbk
    -- the kids of what is laid for the node
    obtain ⟨q, hql, hqo, hqb, hqv⟩ : ∃ q : List T, q.length = x.kids.length ∧ (∀ i (hi : i < q.length), Ok q[i]) ∧ (∀ i (hi : i < q.length) (hi' : i < x.kids.length), Tp.below q[i] (Tp.app (s o) x.kids[i]) = true) ∧ (d.kind ≠ 6 → v1 H.length = .mk d.kind 0 q) := by
      by_cases h56 : x.kind = 5 ∨ x.kind = 6
      · refine ⟨[], by rw [hleaf h56], fun i hi => by simp at hi, fun i hi => by simp at hi, fun hk => ?_⟩
        rcases h56 with h5 | h6
        · exact absurd (by rw [hx.kind, if_pos h5]) hk
        · exact absurd (by rw [hx.kind, h6]; rfl) hk
      · have h5 : x.kind ≠ 5 := fun e => h56 (.inl e)
        have h6 : x.kind ≠ 6 := fun e => h56 (.inr e)
        have hd6 : d.kind = x.kind := by rw [hx.kind, if_neg h5]
        have hgv := hv1 H.length
        obtain ⟨k', n', q, e⟩ : ∃ k' n' q, v1 H.length = .mk k' n' q := by cases v1 H.length; exact ⟨_, _, _, rfl⟩
        rw [e] at hbk hgv
        obtain ⟨g1, g2, g3, g4⟩ := kids_ok hgv
        have ha : Tp.app (s o) x = .mk x.kind x.num (Tp.apps (s o) x.kids) := by cases x; exact Tp.app_node (s o) _ _ h6
        rw [ha] at hbk
        rcases Tp.below_iff.1 hbk with hc | ⟨rfl, rfl, hbs⟩
        · exact absurd hc h5
        · have hlq : q.length = x.kids.length := by have := hrn.1; omega
          refine ⟨q, hlq, g1, fun i hi hi' => ?_, fun _ => by rw [e, hd6, g3]⟩
          have := (belows_all q (Tp.apps (s o) x.kids) (by rw [Tp.apps_len, hlq])).1 hbs i hi (by rw [Tp.apps_len]; exact hi')
          simp only [apps_map, List.getElem_map] at this
          exact this
    let v2 : Nat → T := fun p => if hp : H0.length + l.length ≤ p ∧ p - (H0.length + l.length) < q.length then q[p - (H0.length + l.length)]'hp.2 else v1 p
    have hlow : ∀ p, p < H0.length + l.length → v2 p = v1 p := fun p hp => dif_neg (by omega)
    have hnew : ∀ i (hi : i < q.length), v2 (H0.length + l.length + i) = q[i] := fun i hi => by
      show (if hp : _ then _ else _) = _
      rw [dif_pos (by omega)]
      congr 1
      omega
    have hHl : H.length < H0.length + l.length := by rw [h.len]; omega
    have hkvl : ∀ (p : Nat) (e : Nd), H[p]? = some e → kv v2 e = kv v1 e := fun p e he => by
      obtain ⟨g1, g2, _⟩ := h.wf.kids p e he
      unfold kv
      refine List.map_congr_left fun i hi => ?_
      rw [List.mem_range'_1] at hi
      exact hlow _ (by omega)
    have hlt : ∀ (p : Nat) (e : Nd), H[p]? = some e → p < H0.length + l.length := fun p e he => by have := (List.getElem?_eq_some_iff.1 he).1; omega
    have hv6 : x.kind = 6 → v1 H.length = s o x.num := fun h6 => by
      have ha : Tp.app (s o) x = s o x.num := by cases x; dsimp only [T.kind] at h6; subst h6; exact Tp.app_var _ _ _
      rw [ha] at hbk
      have hso := hs o x.num
      exact Tp.below_stat _ _ (hv1 _).1 hso.1 hso.2.1 hbk
    refine ⟨v2, fun p => ?_, ⟨fun p e he => ?_, fun a n p hp => ?_⟩, by rw [hlow _ (by have := h.root; have := (List.getElem?_eq_some_iff.1 this).1; omega)]; exact hr1, fun p hp => by rw [hlow p (by omega)]; exact ho1 p hp, fun j y hy => ?_⟩
    · show Ok (if hp : _ then _ else _)
      split
      · exact hqo _ _
      · exact hv1 p
    · rcases snoc_cases he with he | ⟨rfl, rfl⟩
      · obtain ⟨f, hf, _⟩ := h.wf.top p e he
        rw [hkvl p e he, hlow p (hlt p e he), hlow _ (hlt _ f hf)]
        exact hsat1.1 p e he
      · rw [hlow _ hHl]
        constructor
        · rcases hx.up with ⟨h6, p, f, h1, h2, h3, _⟩ | ⟨_, _, h3, _⟩ | ⟨_, h3, _⟩
          · obtain ⟨g, hg, _⟩ := h.wf.top p f h2
            rw [h3, hlow _ (hlt _ g hg), ← (hsat1.1 p f h2).1, hsat1.2 o x.num p h1]
            exact hv6 h6
          · rw [h3, hlow _ hHl]
          · rw [h3, hlow _ hHl]
        · intro hk
          rw [hqv hk]
          congr 1
          refine List.ext_getElem (by rw [kv_len, hdi, hql]) fun i h1 h2 => ?_
          rw [kv_get, hx.lo, hnew i h1]
    · rcases hx.up with ⟨_, _, _, _, _, _, rfl⟩ | ⟨h6, hno, _, rfl⟩ | ⟨_, _, rfl⟩
      · rw [hlow p (by have := h.fv a n p hp; omega)]; exact hsat1.2 a n p hp
      · dsimp only at hp
        split at hp
        · rename_i hc
          obtain ⟨rfl, rfl⟩ := hc
          injection hp with hp
          subst hp
          rw [hlow _ hHl]; exact hv6 h6
        · rw [hlow p (by have := h.fv a n p hp; omega)]; exact hsat1.2 a n p hp
      · rw [hlow p (by have := h.fv a n p hp; omega)]; exact hsat1.2 a n p hp
    · by_cases hjl : j < l.length
      · rw [List.getElem?_append_left hjl] at hy
        rw [hlow _ (by omega)]
        exact hb1 j y hy
      · rw [List.getElem?_append_right (by omega)] at hy
        obtain ⟨hi, rfl⟩ := List.getElem?_eq_some_iff.1 hy
        have := hnew (j - l.length) (by omega)
        rw [show H0.length + l.length + (j - l.length) = H0.length + j from by omega] at this
        rw [this]
        exact hqb _ (by omega) hi
  · have h1 := h.size
    have h2 := sizes_drop hx.at'
    have h3 : Tp.size x = Tp.sizes x.kids + 1 := by cases x; rfl
    rw [List.drop_append_of_le_length (by omega), Tp.sizes_append]
    omega
/-- All nodes laid: what the graph asks of the first one. -/
theorem Add.below {H0 : List Nd} {F0 : Fi} {o : Int} {t : T} {l : List T} {H : List Nd} {F : Fi} (h : Add H0 F0 o t l.length l H F) {s : Sb} {v : Nat → T} (hsat : Sat H F s v) : ∀ (n : Nat) (j : Nat) (x : T), Tp.size x ≤ n → l[j]? = some x → Tp.below (v (H0.length + j)) (Tp.app (s o) x) = true := by
  intro n
  induction n with
  | zero => intro j x hx; have := Tp.size_pos x; omega
  | succ n ih =>
    intro j x hx hj
    obtain ⟨d, hd, h1, h2⟩ := h.nd j x (List.getElem?_eq_some_iff.1 hj).1 hj
    by_cases h6 : x.kind = 6
    · obtain ⟨p, e, g1, g2, g3⟩ := h1 h6
      have ha : Tp.app (s o) x = s o x.num := by cases x; dsimp only [T.kind] at h6; subst h6; exact Tp.app_var _ _ _
      rw [ha, (hsat.1 _ d hd).1, g3, ← (hsat.1 p e g2).1, hsat.2 _ _ _ g1]
      exact Tp.below_refl _
    · have ha : Tp.app (s o) x = .mk x.kind x.num (Tp.apps (s o) x.kids) := by cases x; exact Tp.app_node (s o) _ _ h6
      have hrn : x.num = 0 := by have := h.right x (List.mem_of_getElem? hj); cases x; exact (Tp.right_node this).2.2.2.2 h6
      by_cases h5 : x.kind = 5
      · rw [ha]
        cases v (H0.length + j)
        exact Tp.below_iff.2 (.inl h5)
      · obtain ⟨g1, f, g2, g3, g4⟩ := h2 h5 h6
        have hv := (hsat.1 _ d hd).2 (by rw [g1]; exact h6)
        rw [ha, hv, g1, hrn]
        have hl : (kv v d).length = x.kids.length := by rw [kv_len, g3, g2]; omega
        refine Tp.below_iff.2 (.inr ⟨rfl, rfl, (belows_all _ _ (by rw [hl, Tp.apps_len])).2 fun i hi hi' => ?_⟩)
        have hix : i < x.kids.length := by rw [← hl]; exact hi
        have := ih (f + i) x.kids[i] (by have := size_get hix; have : Tp.size x = Tp.sizes x.kids + 1 := by cases x; rfl
                                         omega) (g4 i _ (List.getElem?_eq_getElem hix))
        simp only [apps_map, List.getElem_map, kv_get]
        rw [g2, Nat.add_assoc]
        exact this
end Go.Proofs.Ytncdbbjkafgphaa.Ug
namespace Go.Proofs.Ytncdbbjkafgphaa.Ug
open Tp (T)
/-- What stands for a place. -/
def rep (H : List Nd) (k : Nat) : Nat := ((H[k]?).map Nd.up).getD k
theorem rep_at {H : List Nd} {k : Nat} {d : Nd} (h : H[k]? = some d) : rep H k = d.up := by simp [rep, h]
/-- How often r stands for one of n places from lo on. -/
def cnt (H : List Nd) (r lo n : Nat) : Nat := (List.range' lo n).countP fun k => decide (rep H k = r)
theorem cnt_zero (H : List Nd) (r lo : Nat) : cnt H r lo 0 = 0 := rfl
theorem cnt_snoc (H : List Nd) (r lo n : Nat) : cnt H r lo (n + 1) = cnt H r lo n + if rep H (lo + n) = r then 1 else 0 := by
  unfold cnt
  rw [List.range'_concat, List.countP_append, List.countP_singleton]
  simp
theorem cnt_cons (H : List Nd) (r lo n : Nat) : cnt H r lo (n + 1) = (if rep H lo = r then 1 else 0) + cnt H r (lo + 1) n := by
  unfold cnt
  rw [List.range'_succ, List.countP_cons]
  simp [Nat.add_comm]
theorem cnt_pos {H : List Nd} {r lo n : Nat} : 0 < cnt H r lo n ↔ ∃ k, lo ≤ k ∧ k < lo + n ∧ rep H k = r := by
  unfold cnt
  rw [List.countP_pos_iff]
  constructor
  · rintro ⟨k, hk, h⟩
    rw [List.mem_range'_1] at hk
    exact ⟨k, hk.1, hk.2, of_decide_eq_true h⟩
  · rintro ⟨k, h1, h2, h3⟩
    exact ⟨k, by rw [List.mem_range'_1]; exact ⟨h1, h2⟩, decide_eq_true h3⟩
theorem cnt_le (H : List Nd) (r lo n : Nat) : cnt H r lo n ≤ n := by
  unfold cnt
  exact Nat.le_trans List.countP_le_length (by simp)
/-- How often r stands for a kid of p. -/
def ein (H : List Nd) (r p : Nat) : Nat := match H[p]? with | none => 0 | some d => cnt H r d.lo (d.hi - d.lo)
theorem ein_at {H : List Nd} {r p : Nat} {d : Nd} (h : H[p]? = some d) : ein H r p = cnt H r d.lo (d.hi - d.lo) := by simp [ein, h]
def esum (H : List Nd) (r : Nat) (L : List Nat) : Nat := (L.map (ein H r)).sum
theorem esum_snoc (H : List Nd) (r : Nat) (L : List Nat) (p : Nat) : esum H r (L ++ [p]) = esum H r L + ein H r p := by simp [esum]
theorem esum_zero {H : List Nd} {r : Nat} : ∀ {L : List Nat}, esum H r L = 0 → ∀ p ∈ L, ein H r p = 0
  | [], _, p, hp => by cases hp
  | x :: L, h, p, hp => by
    have h1 : ein H r x + esum H r L = 0 := h
    rcases List.mem_cons.1 hp with rfl | hp
    · omega
    · exact esum_zero (by omega) p hp
/-- Those that stand for themselves, below P. -/
def ownL (H : List Nd) (P : Nat) : List Nat := (List.range P).filter (own H)
theorem ownL_succ (H : List Nd) (P : Nat) : ownL H (P + 1) = ownL H P ++ if own H P = true then [P] else [] := by
  unfold ownL
  rw [List.range_succ, List.filter_append]
  congr 1
  cases h : own H P <;> simp [h]
/-- The counting, P nodes counted. -/
structure Ct (H : List Nd) (P : Nat) (A : List Nat) (st : Nat) : Prop where
  al : A.length = H.length
  cn : ∀ r a, A[r]? = some a → a = esum H r (ownL H P)
  st : st = (ownL H P).length
theorem Ct.start (H : List Nd) : Ct H 0 (List.replicate H.length 0) 0 := by
  refine ⟨by simp, fun r a h => ?_, rfl⟩
  rw [List.getElem?_replicate] at h
  split at h
  · injection h with h; rw [← h]; rfl
  · cases h
/-- .. and j kids of one more. -/
structure CtI (H : List Nd) (P : Nat) (d : Nd) (j : Nat) (A : List Nat) : Prop where
  al : A.length = H.length
  cn : ∀ r a, A[r]? = some a → a = esum H r (ownL H P) + cnt H r d.lo j
theorem Ct.open {H : List Nd} {P : Nat} {A : List Nat} {st : Nat} (h : Ct H P A st) (d : Nd) : CtI H P d 0 A := ⟨h.al, fun r a ha => by rw [cnt_zero, h.cn r a ha]; rfl⟩
theorem CtI.step {H : List Nd} {P j : Nat} {d : Nd} {A : List Nat} {a : Nat} (h : CtI H P d j A) (ha : A[rep H (d.lo + j)]? = some a) : CtI H P d (j + 1) (A.set (rep H (d.lo + j)) (a + 1)) := by
  refine ⟨by rw [List.length_set]; exact h.al, fun r x hx => ?_⟩
  rw [cnt_snoc]
  by_cases hr : rep H (d.lo + j) = r
  · rw [if_pos hr]
    subst hr
    rw [List.getElem?_set_self (List.getElem?_eq_some_iff.1 ha).1] at hx
    injection hx with hx
    rw [← hx, h.cn _ a ha]; omega
  · rw [if_neg hr]
    rw [List.getElem?_set_ne hr] at hx
    rw [h.cn r x hx]; omega
theorem CtI.close {H : List Nd} {P : Nat} {d : Nd} {A A0 : List Nat} {st : Nat} (h0 : Ct H P A0 st) (hd : H[P]? = some d) (hp : d.up = P) (h : CtI H P d (d.hi - d.lo) A) : Ct H (P + 1) A (st + 1) := by
  have ho : own H P = true := own_iff.2 ⟨d, hd, hp⟩
  refine ⟨h.al, fun r a ha => ?_, ?_⟩
  · rw [ownL_succ, if_pos ho, esum_snoc, h.cn r a ha, ein_at hd]
  · rw [ownL_succ, if_pos ho, List.length_append, ← h0.st]; rfl
theorem Ct.skip {H : List Nd} {P : Nat} {d : Nd} {A : List Nat} {st : Nat} (h : Ct H P A st) (hd : H[P]? = some d) (hp : d.up ≠ P) : Ct H (P + 1) A st := by
  have ho : ¬ own H P = true := fun ho => by
    obtain ⟨e, he, hu⟩ := own_iff.1 ho
    rw [hd] at he; injection he with he; subst he; exact hp hu
  have e : ownL H (P + 1) = ownL H P := by rw [ownL_succ, if_neg ho, List.append_nil]
  exact ⟨h.al, by rw [e]; exact h.cn, by rw [e]; exact h.st⟩
/-- Those that are left. -/
def rest (H : List Nd) (D : List Nat) : List Nat := (ownL H H.length).filter fun p => decide (p ∉ D)
theorem mem_rest {H : List Nd} {D : List Nat} {p : Nat} : p ∈ rest H D ↔ own H p = true ∧ p ∉ D := by
  unfold rest ownL
  simp only [List.mem_filter, List.mem_range, decide_eq_true_eq]
  constructor
  · rintro ⟨⟨_, h⟩, h2⟩; exact ⟨h, h2⟩
  · rintro ⟨h, h2⟩
    obtain ⟨d, hd, _⟩ := own_iff.1 h
    exact ⟨⟨(List.getElem?_eq_some_iff.1 hd).1, h⟩, h2⟩
theorem rest_nil (H : List Nd) : rest H [] = ownL H H.length := by unfold rest; exact List.filter_eq_self.2 fun _ _ => by simp
theorem filter_out {f : Nat → Nat} {r : Nat} : ∀ {L D : List Nat}, L.Nodup → r ∈ L → r ∉ D →
    ((L.filter fun p => decide (p ∉ D)).map f).sum = f r + ((L.filter fun p => decide (p ∉ r :: D)).map f).sum ∧ (L.filter fun p => decide (p ∉ D)).length = (L.filter fun p => decide (p ∉ r :: D)).length + 1
  | [], D, _, h, _ => by cases h
  | x :: L, D, hn, h, hD => by
    obtain ⟨hx, hn⟩ := List.nodup_cons.1 hn
    rcases List.mem_cons.1 h with rfl | h
    · have e : (L.filter fun p => decide (p ∉ r :: D)) = L.filter fun p => decide (p ∉ D) := by
        refine List.filter_congr fun p hp => ?_
        have : p ≠ r := fun e => hx (e ▸ hp)
        simp [this]
      have e1 : ((r :: L).filter fun p => decide (p ∉ D)) = r :: L.filter fun p => decide (p ∉ D) := by simp [hD]
      have e2 : ((r :: L).filter fun p => decide (p ∉ r :: D)) = L.filter fun p => decide (p ∉ D) := by rw [List.filter_cons, if_neg (by simp), e]
      rw [e1, e2]
      exact ⟨by simp, by simp⟩
    · obtain ⟨h1, h2⟩ := filter_out (f := f) hn h hD
      have hxr : x ≠ r := fun e => hx (e ▸ h)
      by_cases hxD : x ∈ D
      · have e1 : ((x :: L).filter fun p => decide (p ∉ D)) = L.filter fun p => decide (p ∉ D) := by simp [hxD]
        have e2 : ((x :: L).filter fun p => decide (p ∉ r :: D)) = L.filter fun p => decide (p ∉ r :: D) := by rw [List.filter_cons, if_neg (by simp [hxD])]
        rw [e1, e2]; exact ⟨h1, h2⟩
      · have e1 : ((x :: L).filter fun p => decide (p ∉ D)) = x :: L.filter fun p => decide (p ∉ D) := by simp [hxD]
        have e2 : ((x :: L).filter fun p => decide (p ∉ r :: D)) = x :: L.filter fun p => decide (p ∉ r :: D) := by rw [List.filter_cons, if_pos (by simp [hxD, hxr])]
        rw [e1, e2]
        simp only [List.map_cons, List.sum_cons, List.length_cons]
        omega
theorem nodup_filter {f : Nat → Bool} {l : List Nat} (h : l.Nodup) : (l.filter f).Nodup := List.Pairwise.filter f h
theorem ownL_nodup (H : List Nd) (P : Nat) : (ownL H P).Nodup := nodup_filter List.nodup_range
/-- Each was taken away behind all those that it is below. -/
def Topo (H : List Nd) (D : List Nat) : Prop := ∀ (i r : Nat), D[i]? = some r → ∀ p, own H p = true → 0 < ein H r p → ∃ j, i < j ∧ D[j]? = some p
/-- Between two rounds: D, the last first, was taken away, O is to be. -/
structure Kn (H : List Nd) (A : List Nat) (st : Nat) (O D : List Nat) : Prop where
  al : A.length = H.length
  cn : ∀ r a, A[r]? = some a → a = esum H r (rest H D)
  on : O.Nodup
  o1 : ∀ r ∈ O, own H r = true ∧ r ∉ D ∧ A[r]? = some 0
  o2 : ∀ r, own H r = true → r ∉ D → A[r]? = some 0 → r ∈ O
  dn : D.Nodup
  d1 : ∀ r ∈ D, own H r = true
  tp : Topo H D
  st : st = (rest H D).length
/-- .. one was just taken away, and j of its kids are counted off. -/
structure KnI (H : List Nd) (d : Nd) (r0 : Nat) (j : Nat) (A : List Nat) (st : Nat) (O D : List Nat) : Prop where
  al : A.length = H.length
  cn : ∀ r a, A[r]? = some a → a = esum H r (rest H D) + cnt H r (d.lo + j) (d.hi - d.lo - j)
  on : O.Nodup
  o1 : ∀ r ∈ O, own H r = true ∧ r ∉ D ∧ A[r]? = some 0
  o2 : ∀ r, own H r = true → r ∉ D → A[r]? = some 0 → r ∈ O
  dn : D.Nodup
  d1 : ∀ r ∈ D, own H r = true
  tp : Topo H D
  st : st = (rest H D).length
  hd : D[0]? = some r0
/-- The nodes that are not below others, the last on top. -/
def zeros (H : List Nd) (A : List Nat) (P : Nat) : List Nat := ((List.range P).filter fun p => own H p && decide (A[p]? = some 0)).reverse
theorem zeros_succ (H : List Nd) (A : List Nat) (P : Nat) : zeros H A (P + 1) = (if own H P = true ∧ A[P]? = some 0 then [P] else []) ++ zeros H A P := by
  unfold zeros
  rw [List.range_succ, List.filter_append, List.reverse_append]
  congr 1
  by_cases h : own H P = true ∧ A[P]? = some 0
  · rw [if_pos h]; simp [h.1, h.2]
  · rw [if_neg h]
    have : (own H P && decide (A[P]? = some 0)) = false := by
      rw [Bool.eq_false_iff]; intro hx; simp only [Bool.and_eq_true, decide_eq_true_eq] at hx; exact h hx
    rw [List.filter_cons, this]; rfl
theorem zeros_len (H : List Nd) (A : List Nat) (P : Nat) : (zeros H A P).length ≤ P := by
  unfold zeros
  rw [List.length_reverse]
  exact Nat.le_trans (List.length_filter_le _ _) (by simp)
theorem Kn.start {H : List Nd} {A : List Nat} {st : Nat} (h : Ct H H.length A st) : Kn H A st (zeros H A H.length) [] := by
  refine ⟨h.al, fun r a ha => by rw [rest_nil]; exact h.cn r a ha, ?_, fun r hr => ?_, fun r h1 _ h3 => ?_, List.nodup_nil, fun _ hr => (by cases hr), fun i r hr => (by simp at hr), by rw [rest_nil]; exact h.st⟩
  · unfold zeros
    exact List.pairwise_reverse.2 ((nodup_filter (f := fun p => own H p && decide (A[p]? = some 0)) (List.nodup_range (n := H.length))).imp fun h e => h e.symm)
  · unfold zeros at hr
    simp only [List.mem_reverse, List.mem_filter, Bool.and_eq_true, decide_eq_true_eq] at hr
    exact ⟨hr.2.1, by simp, hr.2.2⟩
  · unfold zeros
    simp only [List.mem_reverse, List.mem_filter, List.mem_range, Bool.and_eq_true, decide_eq_true_eq]
    obtain ⟨d, hd, _⟩ := own_iff.1 h1
    exact ⟨(List.getElem?_eq_some_iff.1 hd).1, h1, h3⟩
theorem Kn.pop {H : List Nd} {A : List Nat} {st r : Nat} {O D : List Nat} {d : Nd} (h : Kn H A st (r :: O) D) (hd : H[r]? = some d) : 0 < st ∧ KnI H d r 0 A (st - 1) O (r :: D) := by
  obtain ⟨h1, h2, h3⟩ := h.o1 r (by simp)
  obtain ⟨n1, n2⟩ := List.nodup_cons.1 h.on
  have hmem : r ∈ ownL H H.length := by rw [← rest_nil]; exact mem_rest.2 ⟨h1, by simp⟩
  have hout := fun f => filter_out (f := f) (ownL_nodup H H.length) hmem h2
  have hst := h.st
  have hlen := (hout (fun _ => 0)).2
  change (rest H D).length = (rest H (r :: D)).length + 1 at hlen
  refine ⟨by omega, h.al, fun x a ha => ?_, n2, fun x hx => ?_, fun x hx hxD h0 => ?_, List.nodup_cons.2 ⟨h2, h.dn⟩, fun x hx => ?_, fun i x hx p hp he => ?_, by omega, rfl⟩
  · have hs := (hout (ein H x)).1
    change esum H x (rest H D) = ein H x r + esum H x (rest H (r :: D)) at hs
    rw [h.cn x a ha, hs, ein_at hd, Nat.add_zero, Nat.sub_zero]; omega
  · obtain ⟨g1, g2, g3⟩ := h.o1 x (List.mem_cons_of_mem _ hx)
    refine ⟨g1, fun hc => ?_, g3⟩
    rcases List.mem_cons.1 hc with rfl | hc
    · exact n1 hx
    · exact g2 hc
  · have := h.o2 x hx (fun hc => hxD (List.mem_cons_of_mem _ hc)) h0
    rcases List.mem_cons.1 this with rfl | this
    · exact absurd (by simp) hxD
    · exact this
  · rcases List.mem_cons.1 hx with rfl | hx
    · exact h1
    · exact h.d1 x hx
  · cases i with
    | zero =>
      simp only [List.getElem?_cons_zero, Option.some.injEq] at hx
      subst hx
      have hpD : p ∈ D := by
        refine Classical.byContradiction fun hpD => ?_
        have := esum_zero (h.cn r 0 h3).symm p (mem_rest.2 ⟨hp, hpD⟩)
        omega
      obtain ⟨j, hj, rfl⟩ := List.getElem_of_mem hpD
      exact ⟨j + 1, by omega, by simp [hj]⟩
    | succ i =>
      simp only [List.getElem?_cons_succ] at hx
      obtain ⟨j, hj, hjp⟩ := h.tp i x hx p hp he
      exact ⟨j + 1, by omega, by simpa using hjp⟩
theorem KnI.step {H : List Nd} {A : List Nat} {st r0 j : Nat} {O D : List Nat} {d e : Nd} (h : KnI H d r0 j A st O D) (hd : H[r0]? = some d) (hj : j < d.hi - d.lo) (he : H[d.lo + j]? = some e) (hw : ∀ f : Nd, H[e.up]? = some f → f.up = e.up) {a : Nat} (ha : A[e.up]? = some a) :
    0 < a ∧ KnI H d r0 (j + 1) (A.set e.up (a - 1)) st (if a - 1 = 0 then e.up :: O else O) D := by
  have hr : rep H (d.lo + j) = e.up := rep_at he
  have hal : e.up < A.length := (List.getElem?_eq_some_iff.1 ha).1
  have hown : own H e.up = true := by
    have hl : e.up < H.length := by rw [← h.al]; exact hal
    exact own_iff.2 ⟨H[e.up], List.getElem?_eq_getElem hl, hw _ (List.getElem?_eq_getElem hl)⟩
  have hc := h.cn e.up a ha
  rw [show d.hi - d.lo - j = d.hi - d.lo - (j + 1) + 1 from by omega, cnt_cons, if_pos hr] at hc
  have ha0 : 0 < a := by omega
  have hnD : e.up ∉ D := fun hD => by
    obtain ⟨i, hi, hie⟩ := List.getElem_of_mem hD
    have hpar : 0 < ein H e.up r0 := by
      rw [ein_at hd, cnt_pos]
      exact ⟨d.lo + j, by omega, by omega, hr⟩
    obtain ⟨i2, h1, h2⟩ := h.tp i e.up (by rw [List.getElem?_eq_getElem hi, hie]) r0 (h.d1 r0 (List.mem_of_getElem? h.hd)) hpar
    have h3 := h.hd
    have hi2 := (List.getElem?_eq_some_iff.1 h2).1
    have := (List.getElem?_inj (i := 0) (j := i2) (by omega) h.dn).1 (by rw [h2, h3])
    omega
  have hnO : e.up ∉ O := fun hO => by
    have := (h.o1 _ hO).2.2
    rw [ha] at this; injection this with this; omega
  refine ⟨ha0, by rw [List.length_set]; exact h.al, fun x b hb => ?_, ?_, fun x hx => ?_, fun x hx hxD h0 => ?_, h.dn, h.d1, h.tp, h.st, h.hd⟩
  · by_cases hx : x = e.up
    · subst hx
      rw [List.getElem?_set_self hal] at hb
      injection hb with hb
      rw [← hb]
      rw [show d.lo + (j + 1) = d.lo + j + 1 from by omega]
      omega
    · rw [List.getElem?_set_ne (fun h => hx h.symm)] at hb
      have := h.cn x b hb
      rw [show d.hi - d.lo - j = d.hi - d.lo - (j + 1) + 1 from by omega, cnt_cons, if_neg (by rw [hr]; exact fun h => hx h.symm), Nat.zero_add] at this
      rw [show d.lo + (j + 1) = d.lo + j + 1 from by omega]
      exact this
  · split
    · exact List.nodup_cons.2 ⟨hnO, h.on⟩
    · exact h.on
  · have old : x ∈ O → own H x = true ∧ x ∉ D ∧ (A.set e.up (a - 1))[x]? = some 0 := fun hx => by
      obtain ⟨g1, g2, g3⟩ := h.o1 x hx
      exact ⟨g1, g2, by rw [List.getElem?_set_ne (fun (hq : e.up = x) => hnO (hq ▸ hx))]; exact g3⟩
    split at hx
    · rename_i h0
      rcases List.mem_cons.1 hx with rfl | hx
      · exact ⟨hown, hnD, by rw [List.getElem?_set_self hal, h0]⟩
      · exact old hx
    · exact old hx
  · by_cases hxe : x = e.up
    · subst hxe
      rw [List.getElem?_set_self hal] at h0
      injection h0 with h0
      rw [if_pos h0]; simp
    · rw [List.getElem?_set_ne (fun h => hxe h.symm)] at h0
      have := h.o2 x hx hxD h0
      split
      · exact List.mem_cons_of_mem _ this
      · exact this
theorem KnI.close {H : List Nd} {A : List Nat} {st r0 : Nat} {O D : List Nat} {d : Nd} (h : KnI H d r0 (d.hi - d.lo) A st O D) : Kn H A st O D :=
  ⟨h.al, fun r a ha => by rw [h.cn r a ha, Nat.sub_self, cnt_zero]; rfl, h.on, h.o1, h.o2, h.dn, h.d1, h.tp, h.st⟩
/-- None is left: types for all nodes. -/
def vl (H : List Nd) : Nat → Nat → T
  | 0, _ => .mk 1 0 []
  | n + 1, p => match H[rep H p]? with
    | none => .mk 1 0 []
    | some e => if e.kind = 6 then .mk 1 0 [] else .mk e.kind 0 (kv (vl H n) e)
theorem vl_succ {H : List Nd} {n p : Nat} {e : Nd} (h : H[rep H p]? = some e) : vl H (n + 1) p = if e.kind = 6 then .mk 1 0 [] else .mk e.kind 0 (kv (vl H n) e) := by simp only [vl, h]
theorem ok_int : Ok (.mk 1 0 []) := by refine ⟨?_, ?_, ?_⟩ <;> simp [Tp.shp, Tp.shps, Tp.arity, Tp.without, Tp.withouts]
theorem shps_of {l : List T} (h : ∀ x ∈ l, Tp.shp x = true) : Tp.shps l = true := by
  induction l with
  | nil => rfl
  | cons a r ih => simp only [Tp.shps, Bool.and_eq_true]; exact ⟨h a (by simp), ih fun x hx => h x (by simp [hx])⟩
theorem withouts_of {k : Int} {l : List T} (h : ∀ x ∈ l, Tp.without k x = true) : Tp.withouts k l = true := by
  induction l with
  | nil => rfl
  | cons a r ih => simp only [Tp.withouts, Bool.and_eq_true]; exact ⟨h a (by simp), ih fun x hx => h x (by simp [hx])⟩
theorem vl_ok {H : List Nd} {M : Nat} (hw : Wf H M) : ∀ n p, Ok (vl H n p)
  | 0, _ => ok_int
  | n + 1, p => by
    simp only [vl]
    split
    · exact ok_int
    · rename_i e he
      split
      · exact ok_int
      · rename_i h6
        obtain ⟨_, _, h3, h5⟩ := hw.kids _ e he
        have hk : ∀ x ∈ kv (vl H n) e, Ok x := fun x hx => by
          unfold kv at hx
          obtain ⟨i, _, rfl⟩ := List.mem_map.1 hx
          exact vl_ok hw n i
        refine ⟨?_, ?_, ?_⟩
        · simp only [Tp.shp, Bool.and_eq_true, Bool.or_eq_true, decide_eq_true_eq]
          exact ⟨⟨by rw [kv_len]; exact h3, .inr trivial⟩, shps_of fun x hx => (hk x hx).1⟩
        · simp only [Tp.without, Bool.and_eq_true, Bool.not_eq_true', decide_eq_false_iff_not]
          exact ⟨h5, withouts_of fun x hx => (hk x hx).2.1⟩
        · simp only [Tp.without, Bool.and_eq_true, Bool.not_eq_true', decide_eq_false_iff_not]
          exact ⟨h6, withouts_of fun x hx => (hk x hx).2.2⟩
theorem vl_rep {H : List Nd} {M : Nat} (hw : Wf H M) {n p : Nat} {d : Nd} (hd : H[p]? = some d) : vl H n p = vl H n d.up := by
  cases n with
  | zero => rfl
  | succ n =>
    obtain ⟨e, he, h1, _⟩ := hw.top p d hd
    simp only [vl, rep_at hd, rep_at he, h1]
/-- Each farther down than what it is below. -/
theorem idx_less {H : List Nd} {D : List Nat} (ht : Topo H D) (hn : D.Nodup) {i r p : Nat} (hr : D[i]? = some r) (hp : own H p = true) (he : 0 < ein H r p) {m : Nat} (hm : D[m]? = some p) : i < m := by
  obtain ⟨j, h1, h2⟩ := ht i r hr p hp he
  have := (List.getElem?_inj (i := j) (j := m) (List.getElem?_eq_some_iff.1 h2).1 hn).1 (by rw [h2, hm])
  omega
theorem own_rep {H : List Nd} {r : Nat} (h : own H r = true) : ∃ d, H[r]? = some d ∧ rep H r = r := by
  obtain ⟨d, hd, hu⟩ := own_iff.1 h
  exact ⟨d, hd, by rw [rep_at hd, hu]⟩
theorem vl_stay {H : List Nd} {D : List Nat} (hw : Wf H H.length) (ht : Topo H D) (hn : D.Nodup) (hd1 : ∀ r ∈ D, own H r = true) (hall : ∀ r, own H r = true → r ∈ D) : ∀ (i r : Nat), D[i]? = some r → ∀ n m, i < n → i < m → vl H n r = vl H m r := by
  intro i
  induction i using Nat.strongRecOn with
  | ind i ih =>
    intro r hr n m hin him
    obtain ⟨n, rfl⟩ : ∃ k, n = k + 1 := ⟨n - 1, by omega⟩
    obtain ⟨m, rfl⟩ : ∃ k, m = k + 1 := ⟨m - 1, by omega⟩
    have hor := hd1 r (List.mem_of_getElem? hr)
    obtain ⟨e, he, hrr⟩ := own_rep hor
    simp only [vl, hrr, he]
    split
    · rfl
    · congr 1
      refine List.map_congr_left fun k hk => ?_
      rw [List.mem_range'_1] at hk
      obtain ⟨_, k2, _⟩ := hw.kids _ e he
      have hkl : k < H.length := by omega
      have hg : H[k]? = some H[k] := List.getElem?_eq_getElem hkl
      obtain ⟨f, hf, hf1, _⟩ := hw.top k _ hg
      rw [vl_rep hw hg, vl_rep hw (n := m) hg]
      have hof : own H H[k].up = true := own_iff.2 ⟨f, hf, hf1⟩
      obtain ⟨q, hq, hqe⟩ := List.getElem_of_mem (hall _ hof)
      have hq' : D[q]? = some H[k].up := by rw [List.getElem?_eq_getElem hq, hqe]
      have hpar : 0 < ein H H[k].up r := by
        rw [ein_at he, cnt_pos]
        exact ⟨k, by omega, by omega, rep_at hg⟩
      have hqi := idx_less ht hn hq' hor hpar hr
      exact ih q hqi _ hq' n m (by omega) (by omega)
/-- All taken away: there are types. -/
theorem Kn.yes {H : List Nd} {A : List Nat} {O D : List Nat} (hw : Wf H H.length) (hc : Cong H []) (h : Kn H A 0 O D) : ∃ v, Good v ∧ Sol H v := by
  have hall : ∀ r, own H r = true → r ∈ D := fun r hr => by
    refine Classical.byContradiction fun hD => ?_
    have : r ∈ rest H D := mem_rest.2 ⟨hr, hD⟩
    rw [List.eq_nil_of_length_eq_zero h.st.symm] at this
    cases this
  have hst := vl_stay hw h.tp h.dn h.d1 hall
  refine ⟨vl H (D.length + 1), vl_ok hw _, fun p d hd => ⟨vl_rep hw hd, fun h6 => ?_⟩⟩
  obtain ⟨e, he, he1, he2⟩ := hw.top p d hd
  have hk := he2 h6
  have hoe : own H d.up = true := own_iff.2 ⟨e, he, he1⟩
  obtain ⟨i, hi, hie⟩ := List.getElem_of_mem (hall _ hoe)
  have hi' : D[i]? = some d.up := by rw [List.getElem?_eq_getElem hi, hie]
  have hcv := hc (vl H (D.length + 1)) (fun p d hd => vl_rep hw hd) (fun _ hx => by cases hx) p d e hd h6 he
  rw [hcv, vl_rep hw hd]
  rw [vl_succ (p := d.up) (by rw [rep_at he, he1]; exact he), hk, if_neg h6]
  congr 1
  refine List.map_congr_left fun k hkk => ?_
  rw [List.mem_range'_1] at hkk
  obtain ⟨_, k2, _⟩ := hw.kids _ e he
  have hkl : k < H.length := by omega
  have hg : H[k]? = some H[k] := List.getElem?_eq_getElem hkl
  obtain ⟨f, hf, hf1, _⟩ := hw.top k _ hg
  rw [vl_rep hw hg, vl_rep hw (n := D.length + 1) hg]
  have hof : own H H[k].up = true := own_iff.2 ⟨f, hf, hf1⟩
  obtain ⟨q, hq, hqe⟩ := List.getElem_of_mem (hall _ hof)
  have hq' : D[q]? = some H[k].up := by rw [List.getElem?_eq_getElem hq, hqe]
  have hpar : 0 < ein H H[k].up d.up := by
    rw [ein_at he, cnt_pos]
    exact ⟨k, by omega, by omega, rep_at hg⟩
  have hqi := idx_less h.tp h.dn hq' hoe hpar hi'
  exact hst q _ hq' D.length (D.length + 1) (by omega) (by omega)
theorem exists_most (f : Nat → Nat) : ∀ {L : List Nat}, L ≠ [] → ∃ r ∈ L, ∀ x ∈ L, f x ≤ f r
  | [], h => absurd rfl h
  | [a], _ => ⟨a, by simp, fun x hx => by rw [List.mem_singleton.1 hx]; exact Nat.le_refl _⟩
  | a :: b :: L, _ => by
    obtain ⟨r, hr, hm⟩ := exists_most f (L := b :: L) (by simp)
    by_cases h : f a ≤ f r
    · exact ⟨r, List.mem_cons_of_mem _ hr, fun x hx => by rcases List.mem_cons.1 hx with rfl | hx
                                                          · exact h
                                                          · exact hm x hx⟩
    · exact ⟨a, by simp, fun x hx => by rcases List.mem_cons.1 hx with rfl | hx
                                        · exact Nat.le_refl _
                                        · exact Nat.le_trans (hm x hx) (by omega)⟩
/-- Some stay: there are none. -/
theorem Kn.no {H : List Nd} {A : List Nat} {st : Nat} {D : List Nat} (hw : Wf H H.length) (h : Kn H A st [] D) (hst : st ≠ 0) (v : Nat → T) : ¬ Sol H v := by
  intro hv
  have hne : rest H D ≠ [] := fun e => by have := h.st; rw [e] at this; exact hst this
  obtain ⟨r, hr, hm⟩ := exists_most (fun p => Tp.size (v p)) hne
  obtain ⟨h1, h2⟩ := mem_rest.1 hr
  obtain ⟨d, hd, hdu⟩ := own_iff.1 h1
  have hrl : r < A.length := by rw [h.al]; exact (List.getElem?_eq_some_iff.1 hd).1
  have hA : A[r]? = some A[r] := List.getElem?_eq_getElem hrl
  have h0 : A[r] ≠ 0 := fun h0 => by
    have := h.o2 r h1 h2 (by rw [hA, h0])
    cases this
  have hs := h.cn r _ hA
  obtain ⟨p, hp, hpe⟩ : ∃ p ∈ rest H D, 0 < ein H r p := by
    refine Classical.byContradiction fun hno => h0 ?_
    rw [hs]
    have : ∀ L : List Nat, (∀ p ∈ L, p ∈ rest H D) → esum H r L = 0 := by
      intro L hL
      induction L with
      | nil => rfl
      | cons a L ih =>
        have h1 : ein H r a = 0 := by
          refine Nat.eq_zero_of_not_pos fun hp => hno ⟨a, hL a (by simp), hp⟩
        have h2 := ih fun p hp => hL p (List.mem_cons_of_mem _ hp)
        show ein H r a + esum H r L = 0
        omega
    exact this _ fun _ h => h
  obtain ⟨g1, g2⟩ := mem_rest.1 hp
  obtain ⟨e, he, heu⟩ := own_iff.1 g1
  rw [ein_at he, cnt_pos] at hpe
  obtain ⟨k, k1, k2, k3⟩ := hpe
  obtain ⟨w1, w2, w3, _⟩ := hw.kids p e he
  have hk6 : e.kind ≠ 6 := fun h6 => by rw [h6] at w3; simp [Tp.arity] at w3; omega
  have hkl : k < H.length := by omega
  have hg : H[k]? = some H[k] := List.getElem?_eq_getElem hkl
  rw [rep_at hg] at k3
  have hvk : v k = v r := by rw [(hv k _ hg).1, k3]
  have hvp := (hv p e he).2 hk6
  have hle := hm p hp
  have hin : k - e.lo < (kv v e).length := by rw [kv_len]; omega
  have hsz := size_get hin
  rw [kv_get, show e.lo + (k - e.lo) = k from by omega, hvk] at hsz
  have : Tp.size (v p) = Tp.sizes (kv v e) + 1 := by rw [hvp]; rfl
  omega
end Go.Proofs.Ytncdbbjkafgphaa.Ug
namespace Go.Proofs.Ytncdbbjkafgphaa.Ug
open Tp (T)
/-- Static closed types for the variables of both. -/
theorem und_two {a b : T} (ha : Tp.right a = true) (hb : Tp.right b = true) : Tp.Und a b ↔ ∃ s : Sb, Clos s ∧ Tp.below (Tp.app (s 0) a) (Tp.app (s 1) b) = true := by
  constructor
  · intro h
    obtain ⟨s, hs, h1⟩ := (Tp.und_apart (q := 2097154) ha hb (by decide)).1 h
    rw [Tp.app_sh] at h1
    refine ⟨fun o n => if o = 0 then s n else s (2097154 + n), fun o n => ?_, ?_⟩
    · dsimp only
      split
      · exact hs _
      · exact hs _
    · exact h1
  · rintro ⟨s, hs, h1⟩
    refine ⟨(Tp.vars a []).map fun n => (n, s 0 n), (Tp.vars b []).map fun n => (n, s 1 n), fun n hn => ⟨_, Tp.look_map (s 0) _ n hn, Tp.shp_closed _ (hs 0 n).1 (hs 0 n).2.2, (hs 0 n).2⟩, fun n hn => ⟨_, Tp.look_map (s 1) _ n hn, Tp.shp_closed _ (hs 1 n).1 (hs 1 n).2.2, (hs 1 n).2⟩, ?_⟩
    rw [← Tp.app_sub a (fun n hn => Tp.look_map (s 0) _ n (Tp.occ_vars hn)), ← Tp.app_sub b (fun n hn => Tp.look_map (s 1) _ n (Tp.occ_vars hn))]
    exact h1
def csz (O : List (T × T)) : Nat := (O.map fun c => Tp.size c.1 + Tp.size c.2).sum
theorem csz_cons (c : T × T) (O : List (T × T)) : csz (c :: O) = Tp.size c.1 + Tp.size c.2 + csz O := rfl
theorem csz_append (O P : List (T × T)) : csz (O ++ P) = csz O + csz P := by simp [csz]
/-- The pairs of a row are below. -/
def Bl (s : Sb) (O : List (T × T)) : Prop := ∀ c ∈ O, Tp.below (Tp.app (s 0) c.1) (Tp.app (s 1) c.2) = true
theorem bl_cons {s : Sb} {c : T × T} {O : List (T × T)} : Bl s (c :: O) ↔ Tp.below (Tp.app (s 0) c.1) (Tp.app (s 1) c.2) = true ∧ Bl s O := by
  constructor
  · intro h; exact ⟨h c (by simp), fun x hx => h x (List.mem_cons_of_mem _ hx)⟩
  · rintro ⟨h1, h2⟩ x hx
    rcases List.mem_cons.1 hx with rfl | hx
    · exact h1
    · exact h2 x hx
/-- Between two rounds. -/
structure Cmp (a b : T) (H : List Nd) (F : Fi) (O : List (T × T)) : Prop where
  wf : Wf H H.length
  cong : Cong H []
  fv : ∀ a n p, F a n = some p → p < H.length
  rt : ∀ c ∈ O, Tp.right c.1 = true ∧ Tp.right c.2 = true
  eq : (∃ s, Clos s ∧ Tp.below (Tp.app (s 0) a) (Tp.app (s 1) b) = true) ↔ ∃ s v, Clos s ∧ Good v ∧ Sat H F s v ∧ Bl s O
  sz : H.length + csz O ≤ Tp.size a + Tp.size b
theorem Cmp.start {a b : T} (ha : Tp.right a = true) (hb : Tp.right b = true) : Cmp a b [] (fun _ _ => none) [(a, b)] := by
  refine ⟨⟨fun p d hd => by simp at hd, fun p d hd => by simp at hd⟩, fun v _ _ p d e hd => by simp at hd, fun _ _ _ h => (by cases h), fun c hc => ?_, ?_, by simp [csz]⟩
  · obtain rfl := List.mem_singleton.1 hc
    exact ⟨ha, hb⟩
  · constructor
    · rintro ⟨s, h1, h2⟩
      refine ⟨s, fun _ => .mk 1 0 [], h1, fun _ => ok_int, ⟨fun p d hd => by simp at hd, fun _ _ _ h => (by cases h)⟩, fun c hc => ?_⟩
      obtain rfl := List.mem_singleton.1 hc
      exact h2
    · rintro ⟨s, v, h1, _, _, h2⟩
      exact ⟨s, h1, h2 (a, b) (by simp)⟩
theorem Cmp.drop {a b x y : T} {H : List Nd} {F : Fi} {O : List (T × T)} (h : Cmp a b H F ((x, y) :: O)) (hd : y.kind = 5) : Cmp a b H F O := by
  refine ⟨h.wf, h.cong, h.fv, fun c hc => h.rt c (List.mem_cons_of_mem _ hc), ?_, by have := h.sz; rw [csz_cons] at this; omega⟩
  rw [h.eq]
  have hy : ∀ s : Sb, Tp.below (Tp.app (s 0) x) (Tp.app (s 1) y) = true := fun s => by
    have : Tp.app (s 1) y = .mk y.kind y.num (Tp.apps (s 1) y.kids) := by cases y; exact Tp.app_node (s 1) _ _ (by dsimp only [T.kind] at hd; omega)
    rw [this]
    cases Tp.app (s 0) x
    exact Tp.below_iff.2 (.inl hd)
  constructor
  · rintro ⟨s, v, h1, h2, h3, h4⟩; exact ⟨s, v, h1, h2, h3, (bl_cons.1 h4).2⟩
  · rintro ⟨s, v, h1, h2, h3, h4⟩; exact ⟨s, v, h1, h2, h3, bl_cons.2 ⟨hy s, h4⟩⟩
theorem app_own {s : Int → T} {x : T} (h : x.kind ≠ 6) : Tp.app s x = .mk x.kind x.num (Tp.apps s x.kids) := by cases x; exact Tp.app_node s _ _ h
theorem app_name {s : Int → T} {x : T} (h : x.kind = 6) : Tp.app s x = s x.num := by cases x; dsimp only [T.kind] at h; subst h; exact Tp.app_var _ _ _
theorem Cmp.kinds {a b x y : T} {H : List Nd} {F : Fi} {O : List (T × T)} (h : Cmp a b H F ((x, y) :: O)) (hd : y.kind ≠ 5) (hx : x.kind ≠ 6) (hy : y.kind ≠ 6) (hk : x.kind ≠ y.kind) : ¬ ∃ s, Clos s ∧ Tp.below (Tp.app (s 0) a) (Tp.app (s 1) b) = true := by
  rw [h.eq]
  rintro ⟨s, v, _, _, _, h4⟩
  have := (bl_cons.1 h4).1
  dsimp only at this
  rw [app_own hx, app_own hy] at this
  rcases Tp.below_iff.1 this with h1 | ⟨h1, _⟩
  · exact hd h1
  · exact hk h1
/-- The pairs of kids, the last on top. -/
def kq (x y : T) : List (T × T) := (x.kids.zip y.kids).reverse
theorem csz_kq {x y : T} (h : x.kids.length = y.kids.length) : csz (kq x y) = Tp.sizes x.kids + Tp.sizes y.kids := by
  unfold csz kq
  rw [List.map_reverse, List.sum_reverse]
  generalize x.kids = l at h ⊢
  generalize y.kids = m at h ⊢
  induction l generalizing m with
  | nil => cases m with
    | nil => rfl
    | cons b m => simp at h
  | cons a l ih => cases m with
    | nil => simp at h
    | cons b m =>
      simp only [List.zip_cons_cons, List.map_cons, List.sum_cons, Tp.sizes]
      rw [ih m (by simpa using h)]; omega
theorem Cmp.kids {a b x y : T} {H : List Nd} {F : Fi} {O : List (T × T)} (h : Cmp a b H F ((x, y) :: O)) (hd : y.kind ≠ 5) (hx : x.kind ≠ 6) (hy : y.kind ≠ 6) (hk : x.kind = y.kind) : x.kids.length = y.kids.length ∧ Cmp a b H F (kq x y ++ O) := by
  have hr := h.rt (x, y) (by simp)
  dsimp only at hr
  have rx : Tp.arity x.kind = x.kids.length ∧ Tp.rights x.kids = true ∧ (x.kind ≠ 6 → x.num = 0) := by cases x; have := Tp.right_node hr.1; exact ⟨this.1, this.2.1, this.2.2.2.2⟩
  have ry : Tp.arity y.kind = y.kids.length ∧ Tp.rights y.kids = true ∧ (y.kind ≠ 6 → y.num = 0) := by cases y; have := Tp.right_node hr.2; exact ⟨this.1, this.2.1, this.2.2.2.2⟩
  have hl : x.kids.length = y.kids.length := by have h1 := rx.1; have h2 := ry.1; rw [hk] at h1; omega
  have hb : ∀ s : Sb, Tp.below (Tp.app (s 0) x) (Tp.app (s 1) y) = true ↔ Bl s (kq x y) := fun s => by
    rw [app_own hx, app_own hy, Tp.below_iff, rx.2.2 hx, ry.2.2 hy]
    rw [belows_all _ _ (by rw [Tp.apps_len, Tp.apps_len, hl])]
    simp only [apps_map, List.getElem_map, List.length_map]
    constructor
    · intro hh c hc
      have hh := (hh.resolve_left hd).2.2
      simp only [kq, List.mem_reverse] at hc
      obtain ⟨i, hi, rfl⟩ := List.getElem_of_mem hc
      rw [List.length_zip] at hi
      simp only [List.getElem_zip]
      exact hh i (by omega) (by omega)
    · intro hh
      refine .inr ⟨hk, trivial, fun i hi hi' => ?_⟩
      have := hh (x.kids[i], y.kids[i]) (by
        simp only [kq, List.mem_reverse]
        have e : (x.kids.zip y.kids)[i]'(by rw [List.length_zip]; omega) = (x.kids[i], y.kids[i]) := List.getElem_zip
        rw [← e]; exact List.getElem_mem _)
      exact this
  refine ⟨hl, h.wf, h.cong, h.fv, fun c hc => ?_, ?_, ?_⟩
  · rcases List.mem_append.1 hc with hc | hc
    · simp only [kq, List.mem_reverse] at hc
      obtain ⟨i, hi, rfl⟩ := List.getElem_of_mem hc
      rw [List.length_zip] at hi
      simp only [List.getElem_zip]
      exact ⟨rights_get _ rx.2.1, rights_get _ ry.2.1⟩
    · exact h.rt c (List.mem_cons_of_mem _ hc)
  · rw [h.eq]
    have hbl : ∀ s : Sb, Bl s ((x, y) :: O) ↔ Bl s (kq x y ++ O) := fun s => by
      rw [bl_cons, hb s]
      constructor
      · rintro ⟨h1, h2⟩ c hc
        exact (List.mem_append.1 hc).elim (h1 c) (h2 c)
      · intro h1
        exact ⟨fun c hc => h1 c (List.mem_append_left _ hc), fun c hc => h1 c (List.mem_append_right _ hc)⟩
    constructor
    · rintro ⟨s, v, h1, h2, h3, h4⟩; exact ⟨s, v, h1, h2, h3, (hbl s).1 h4⟩
    · rintro ⟨s, v, h1, h2, h3, h4⟩; exact ⟨s, v, h1, h2, h3, (hbl s).2 h4⟩
  · have h1 := h.sz
    have h2 : Tp.size x = Tp.sizes x.kids + 1 := by cases x; rfl
    have h3 : Tp.size y = Tp.sizes y.kids + 1 := by cases y; rfl
    rw [csz_cons] at h1
    rw [csz_append, csz_kq hl]
    dsimp only at h1
    omega
/-- Not static: nothing makes it be below a variable. -/
theorem Cmp.dyn {a b x y : T} {H : List Nd} {F : Fi} {O : List (T × T)} (h : Cmp a b H F ((x, y) :: O)) (hxy : x.kind = 6 ∨ y.kind = 6) (hs : Tp.without 5 x = false) : ¬ ∃ s, Clos s ∧ Tp.below (Tp.app (s 0) a) (Tp.app (s 1) b) = true := by
  rw [h.eq]
  rintro ⟨s, v, h1, _, _, h4⟩
  have hr := h.rt (x, y) (by simp)
  dsimp only at hr
  have hb := (bl_cons.1 h4).1
  dsimp only at hb
  have hy : y.kind = 6 := hxy.resolve_left fun hx => by
    cases x with
    | mk k n l =>
      dsimp only [T.kind] at hx
      subst hx
      obtain rfl := Tp.right_leaf hr.1
      simp [Tp.without, Tp.withouts] at hs
  rw [app_name hy] at hb
  have hcx := Tp.app_clo (h1 0) x (Tp.shp_right x hr.1)
  have := Tp.below_stat _ _ hcx.1 (h1 1 y.num).1 (h1 1 y.num).2.1 hb
  have h5 := (h1 1 y.num).2.1
  rw [← this, hcx.2.2, hs] at h5
  cases h5
/-- Both added: what makes them be below makes the places of both the same, and the other way round. -/
theorem add_two {x y : T} {H H1 H2 : List Nd} {F F1 F2 : Fi} {l m : List T} (hx : Tp.right x = true) (hs : Tp.without 5 x = true) (h1 : Add H F 0 x l.length l H1 F1) (h2 : Add H1 F1 1 y m.length m H2 F2) {s : Sb} (hc : Clos s) :
    (∀ v, Good v → Sat H2 F2 s v → v H.length = v H1.length → Sat H F s v ∧ Tp.below (Tp.app (s 0) x) (Tp.app (s 1) y) = true) ∧
    (∀ v, Good v → Sat H F s v → Tp.below (Tp.app (s 0) x) (Tp.app (s 1) y) = true → ∃ v', Good v' ∧ Sat H2 F2 s v' ∧ v' H.length = v' H1.length) := by
  have hcx := Tp.app_clo (hc 0) x (Tp.shp_right x hx)
  have hok : Ok (Tp.app (s 0) x) := ⟨hcx.1, by rw [hcx.2.2]; exact hs, hcx.2.1⟩
  have hlen : 0 < l.length := (List.getElem?_eq_some_iff.1 h1.root).1
  constructor
  · intro v hv hsat he
    have hs1 : Sat H1 F1 s v := ⟨fun p d hd => hsat.1 p d (h2.old p d hd), fun a n p hp => hsat.2 a n p (h2.ext a n p hp)⟩
    have hs0 : Sat H F s v := ⟨fun p d hd => hs1.1 p d (h1.old p d hd), fun a n p hp => hs1.2 a n p (h1.ext a n p hp)⟩
    refine ⟨hs0, ?_⟩
    have b1 := h1.below hs1 _ 0 x (Nat.le_refl _) h1.root
    have b2 := h2.below hsat _ 0 y (Nat.le_refl _) h2.root
    rw [Nat.add_zero] at b1 b2
    have e := Tp.below_stat _ _ (hv _).1 hok.1 hok.2.1 b1
    rw [← e, he]; exact b2
  · intro v hv hsat hb
    obtain ⟨v1, g1, g2, g3, g4, _⟩ := h1.fill s v _ hc hv hsat hok (Tp.below_refl _)
    obtain ⟨v2, k1, k2, k3, k4, _⟩ := h2.fill s v1 _ hc g1 g2 hok hb
    exact ⟨v2, k1, k2, by rw [k3, k4 _ (by rw [h1.len]; omega), g3]⟩
theorem Cmp.no {a b x y : T} {H H1 H2 : List Nd} {F F1 F2 : Fi} {O : List (T × T)} {l m : List T} (h : Cmp a b H F ((x, y) :: O)) (hs : Tp.without 5 x = true) (h1 : Add H F 0 x l.length l H1 F1) (h2 : Add H1 F1 1 y m.length m H2 F2)
    (hno : ∀ v, Good v → ¬ (Sol H2 v ∧ v H.length = v H1.length)) : ¬ ∃ s, Clos s ∧ Tp.below (Tp.app (s 0) a) (Tp.app (s 1) b) = true := by
  rw [h.eq]
  rintro ⟨s, v, g1, g2, g3, g4⟩
  obtain ⟨v', k1, k2, k3⟩ := (add_two (h.rt (x, y) (by simp)).1 hs h1 h2 g1).2 v g2 g3 (bl_cons.1 g4).1
  exact hno v' k1 ⟨k2.1, k3⟩
theorem Cmp.yes {a b x y : T} {H H1 H2 H3 : List Nd} {F F1 F2 : Fi} {O : List (T × T)} {l m : List T} (h : Cmp a b H F ((x, y) :: O)) (hs : Tp.without 5 x = true) (h1 : Add H F 0 x l.length l H1 F1) (h2 : Add H1 F1 1 y m.length m H2 F2)
    (hu : Un H2 H.length H1.length H3 []) : Cmp a b H3 F2 O := by
  refine ⟨hu.wf, hu.cong, fun a n p hp => by rw [hu.len]; exact h2.fv a n p hp, fun c hc => h.rt c (List.mem_cons_of_mem _ hc), ?_, ?_⟩
  · rw [h.eq]
    have hrx := (h.rt (x, y) (by simp)).1
    constructor
    · rintro ⟨s, v, g1, g2, g3, g4⟩
      obtain ⟨v', k1, k2, k3⟩ := (add_two hrx hs h1 h2 g1).2 v g2 g3 (bl_cons.1 g4).1
      exact ⟨s, v', g1, k1, ⟨((hu.sol v' k1).1 ⟨k2.1, k3⟩).1, k2.2⟩, (bl_cons.1 g4).2⟩
    · rintro ⟨s, v, g1, g2, g3, g4⟩
      obtain ⟨k1, k2⟩ := (hu.sol v g2).2 ⟨g3.1, fun _ hx => by cases hx⟩
      obtain ⟨q1, q2⟩ := (add_two hrx hs h1 h2 g1).1 v g2 ⟨k1, g3.2⟩ k2
      exact ⟨s, v, g1, g2, q1, bl_cons.2 ⟨q2, g4⟩⟩
  · have e1 := h1.size
    have e2 := h2.size
    rw [List.drop_length] at e1 e2
    have e3 := h1.len
    have e4 := h2.len
    have e5 := hu.len
    have e6 := h.sz
    rw [csz_cons] at e6
    simp only [Tp.sizes] at e1 e2
    dsimp only at e6
    omega
/-- All pairs looked at. -/
theorem Cmp.done {a b : T} {H : List Nd} {F : Fi} (h : Cmp a b H F []) : (∃ s, Clos s ∧ Tp.below (Tp.app (s 0) a) (Tp.app (s 1) b) = true) ↔ ∃ v, Good v ∧ Sol H v := by
  rw [h.eq]
  constructor
  · rintro ⟨s, v, _, h2, h3, _⟩; exact ⟨v, h2, h3.1⟩
  · rintro ⟨v, h2, h3⟩
    refine ⟨fun o n => match F o n with | some p => v p | none => .mk 1 0 [], v, fun o n => ?_, h2, ⟨h3, fun o n p hp => by simp [hp]⟩, fun c hc => by cases hc⟩
    dsimp only
    split
    · exact h2 _
    · exact ok_int
end Go.Proofs.Ytncdbbjkafgphaa.Ug
namespace Go.Proofs.Ytncdbbjkafgphaa
open Go Go.RowKit
open Tp (T)

namespace Ug
def ndCells (d : Nd) : List Value := [.int .i64 d.kind, .int .i64 (d.lo : Int), .int .i64 (d.hi : Int), .int .i64 (d.up : Int)]
def ndRow (G : List Nd) : List Value := G.flatMap ndCells
theorem ndRow_len : ∀ G : List Nd, (ndRow G).length = G.length * 4
  | [] => rfl
  | e :: r => by
    have := ndRow_len r
    simp only [ndRow, List.flatMap_cons, List.length_append, List.length_cons, ndCells, List.length_nil] at this ⊢
    omega
theorem ndRow_cons (d : Nd) (G : List Nd) : ndRow (d :: G) = ndCells d ++ ndRow G := by simp [ndRow]
theorem ndRow_snoc (G : List Nd) (d : Nd) : ndRow (G ++ [d]) = ndRow G ++ ndCells d := by simp [ndRow]
theorem ndRow_at : ∀ {G : List Nd} {p : Nat} {d : Nd}, G[p]? = some d → ∀ j, j < 4 → (ndRow G)[p * 4 + j]? = (ndCells d)[j]?
  | [], p, d, h, _, _ => by simp at h
  | t :: r, 0, d, h, j, hj => by
    simp only [List.getElem?_cons_zero, Option.some.injEq] at h
    subst h
    rw [ndRow_cons, Nat.zero_mul, Nat.zero_add, List.getElem?_append_left (by simp [ndCells]; omega)]
  | t :: r, p + 1, d, h, j, hj => by
    rw [ndRow_cons, List.getElem?_append_right (by simp [ndCells]; omega)]
    have ih := ndRow_at (G := r) (p := p) (by simpa using h) j hj
    rw [show (p + 1) * 4 + j - (ndCells t).length = p * 4 + j from by simp [ndCells]; omega, ih]
theorem ndRow_up : ∀ {G : List Nd} {p : Nat} {d : Nd} (u : Nat), G[p]? = some d → (ndRow G).set (p * 4 + 3) (.int .i64 (u : Int)) = ndRow (G.set p { d with up := u })
  | [], p, d, u, h => by simp at h
  | t :: r, 0, d, u, h => by
    simp only [List.getElem?_cons_zero, Option.some.injEq] at h
    subst h
    rw [List.set_cons_zero, ndRow_cons, ndRow_cons]
    simp [ndCells]
  | t :: r, p + 1, d, u, h => by
    rw [List.set_cons_succ, ndRow_cons, ndRow_cons, ← ndRow_up (G := r) (p := p) u (by simpa using h), List.set_append_right _ _ (by simp [ndCells]; omega)]
    congr 2
    simp [ndCells]; omega
end Ug
open Ug (Of Rt)
abbrev GNd := Ug.Nd
theorem elem_nd : Try.prog.underlying 60 = some (.slice (Try.prog.elem 60)) := by kernel_rfl
theorem size_nd (w : World) : (sizeOf (Try.prog.elem 60)).run Try.prog w = .ok 4 w := by kernel_rfl
theorem info_nd : (Try.prog.info? 88).map (fun i => (i.zero, i.size, i.bytes)) = some (some (.agg #[.int .i64 0, .int .i64 0, .int .i64 0, .int .i64 0]), 4, 32) := by kernel_rfl
/-- The graph: its box, and its nodes in a row of its own. -/
structure GV (B gb : Nat) (m v : Value) (w : World) (H : List GNd) : Prop where
  row : ∃ G, Of G H ∧ w.ownsRow B 88 4 v G.length (Ug.ndRow G)
  box : w.heap[gb]? = some (.cells #[v, m] 62)
  lo : B ≤ gb
theorem gv_far {B n : Nat} {w : World} {v : Value} {xs : List Value} {b : Nat} {o : Obj} (h : w.ownsRow B 88 4 v n xs) (hb : w.heap[b]? = some o) (hs : ∀ A, o ≠ .cells A 88) : v.ownBlock ≠ some b := fun e => by
  rcases h.2 with ⟨h1, _⟩ | ⟨g, cap, cur, h1, _, h3, _⟩
  · rw [h1] at e; cases e
  · rw [h1] at e; injection e with e; dsimp only at e; rw [e, hb] at h3; injection h3 with h3; exact hs cur h3
theorem gv_open {B gb : Nat} {m v : Value} {w : World} {H : List GNd} (h : GV B gb m v w H) (hl : 0 < H.length) : ∃ G rb cap, v = .slice (some ⟨rb, 0, none⟩) H.length cap ∧ Of G H ∧ w.ownsRow B 88 4 (.slice (some ⟨rb, 0, none⟩) G.length cap) G.length (Ug.ndRow G) ∧ B ≤ rb ∧ rb < w.heap.size ∧ gb ≠ rb := by
  obtain ⟨G, hO, hown⟩ := h.row
  rcases hown.2 with ⟨_, h2⟩ | ⟨g, cap, cur, h1, h2, h3, h4⟩
  · have := hO.len; omega
  · subst h1
    refine ⟨G, g, cap, by rw [hO.len], hO, hown, h2, (Array.getElem?_eq_some_iff.1 h3).1, fun e => ?_⟩
    rw [← e, h.box] at h3
    injection h3 with h3
    injection h3 with _ h5
    exact absurd h5 (by decide)
/-- The cells of a node. -/
theorem nd_cells {B rb cap n : Nat} {w : World} {G : List GNd} (h : w.ownsRow B 88 4 (.slice (some ⟨rb, 0, none⟩) n cap) n (Ug.ndRow G)) {p : Nat} {d : GNd} (hd : G[p]? = some d) :
    w.cell? ⟨rb, p * 4, none⟩ = some (.int .i64 d.kind) ∧ w.cell? ⟨rb, p * 4 + 1, none⟩ = some (.int .i64 (d.lo : Int)) ∧ w.cell? ⟨rb, p * 4 + 2, none⟩ = some (.int .i64 (d.hi : Int)) ∧ w.cell? ⟨rb, p * 4 + 3, none⟩ = some (.int .i64 (d.up : Int)) := by
  have k : ∀ j, j < 4 → ∀ u, (Ug.ndCells d)[j]? = some u → w.cell? ⟨rb, p * 4 + j, none⟩ = some u := fun j hj u hu => by
    have := h.cells (g := rb) rfl (p * 4 + j) u (by rw [Ug.ndRow_at hd j hj]; exact hu)
    rwa [add_flat, Nat.zero_add] at this
  exact ⟨k 0 (by omega) _ rfl, k 1 (by omega) _ rfl, k 2 (by omega) _ rfl, k 3 (by omega) _ rfl⟩
end Go.Proofs.Ytncdbbjkafgphaa
namespace Go.Proofs.Ytncdbbjkafgphaa
open Go Go.RowKit
open Tp (T)
open Ug (Of Rt)
theorem pt_int {p n : Nat} (h : p < n) : (0 : Int) ≤ (p : Int) ∧ (p : Int) < (n : Int) := ⟨Int.natCast_nonneg p, by omega⟩
/-- A node's way made shorter, in memory. -/
theorem nd_set {B rb cap : Nat} {w : World} {G : List GNd} (h : w.ownsRow B 88 4 (.slice (some ⟨rb, 0, none⟩) G.length cap) G.length (Ug.ndRow G)) {p : Nat} {d : GNd} (hd : G[p]? = some d) (u : Nat) :
    (w.setCell ⟨rb, p * 4 + 3, none⟩ (.int .i64 (u : Int))).ownsRow B 88 4 (.slice (some ⟨rb, 0, none⟩) (G.set p { d with up := u }).length cap) (G.set p { d with up := u }).length (Ug.ndRow (G.set p { d with up := u })) := by
  rw [List.length_set, ← Ug.ndRow_up u hd]
  exact (h.stored (p * 4 + 3) _).1
set_option maxRecDepth 100000 in
set_option maxHeartbeats 4000000 in
theorem find_any (B gb rb cap : Nat) (m : Value) (H : List GNd) (p : Nat) (d : GNd) (w : World) (h : GV B gb m (.slice (some ⟨rb, 0, none⟩) H.length cap) w H) (hd : H[p]? = some d) :
    Calls Try.prog 63 #[.pointer (some ⟨gb, 0, none⟩), .int .i64 (p : Int)] w fun e w' => e = .returned (.int .i64 (d.up : Int)) ∧ GV B gb m (.slice (some ⟨rb, 0, none⟩) H.length cap) w' H ∧ Turns (fun k => k = rb) w w' := by
  obtain ⟨G, rb', cap', hv, hO, hown, hrl, hrs, hne⟩ := gv_open h (by have := (List.getElem?_eq_some_iff.1 hd).1; omega)
  injection hv with hv1 hv2 hv3
  injection hv1 with hv1
  injection hv1 with hv1
  subst hv1 hv3
  obtain ⟨g, hg, _, _, _, n, hr⟩ := hO.get hd
  obtain ⟨L, hL⟩ : ∃ L, H.length = L := ⟨_, rfl⟩
  obtain ⟨r, hr'⟩ : ∃ r, d.up = r := ⟨_, rfl⟩
  have hGL : G.length = L := hO.len.trans hL
  rw [hr'] at hr ⊢
  rw [hL]
  have HO := Lib.hid hO; have HOWN := Lib.hid hown; have HR := Lib.hid hr; have HGV := Lib.hid h; have HL := Lib.hid hL; have HGL := Lib.hid hGL; have HNE := Lib.hid hne; have HRS := Lib.hid hrs
  clear hO hown hr h hL hGL hd hg hr' hrl hrs hne
  go_enter Try.func63, Try.ntmps63
  go_upto_region 1 with fail
  go_loopg [1] n (fun gk v wr => ∃ (G : List GNd) (p : Nat), v = .int .i64 (p : Int) ∧ Of G H ∧ Rt G gk p r ∧ wr.ownsRow B 88 4 (.slice (some ⟨rb, 0, none⟩) G.length cap) G.length (Ug.ndRow G) ∧ Turns (fun k => k = rb) w wr)
  case atStart => exact ⟨G, p, rfl, HO.out, HR.out, HOWN.out, Turns.refl _ _⟩
  case round =>
    obtain ⟨G, p, rfl, hO, hr, hown, ht⟩ := hrel
    have cb : wr.cell? ⟨gb, 0, none⟩ = some (.slice (some ⟨rb, 0, none⟩) L cap) := by rw [← HL.out]; exact cell_box (ht.heap HGV.out.box HNE.out) rfl rfl
    have hGL : G.length = L := hO.len.trans HL.out
    obtain ⟨e, he⟩ : ∃ e, G[p]? = some e := by
      cases gk with
      | zero => obtain ⟨_, e, h1, _⟩ := hr; exact ⟨e, h1⟩
      | succ k => obtain ⟨e, h1, _⟩ := hr; exact ⟨e, h1⟩
    have hpl : p < L := by rw [← hGL]; exact (List.getElem?_eq_some_iff.1 he).1
    obtain ⟨q0, q1⟩ := pt_int hpl
    obtain ⟨_, _, _, cp⟩ := nd_cells hown he
    obtain ⟨q, hq⟩ : ∃ q, e.up = q := ⟨_, rfl⟩
    rw [hq] at cp
    have HO2 := Lib.hid hO; have HR2 := Lib.hid hr; have HOWN2 := Lib.hid hown; have HT2 := Lib.hid ht; have HE := Lib.hid he; have HQ := Lib.hid hq; have HGL2 := Lib.hid hGL
    clear hO hr hown ht he hGL hq HO HR HOWN HGL
    by_cases hqp : q = p
    · subst hqp
      have hrq : r = q := by
        have h1 := HR2.out
        cases gk with
        | zero => exact h1.1
        | succ k => obtain ⟨e', h2, h3, _⟩ := h1; rw [HE.out] at h2; injection h2 with h2; subst h2; exact absurd HQ.out h3
      subst hrq
      go_wp2_with fail
      go_ret
      exact ⟨rfl, ⟨⟨G, HO2.out, by rw [HGL2.out]; exact (HGL2.out ▸ HOWN2.out)⟩, by rw [← HL.out]; exact HT2.out.heap HGV.out.box HNE.out, HGV.out.lo⟩, HT2.out⟩
    · obtain ⟨e2, he2, hnx⟩ : ∃ e2, G[q]? = some e2 ∧ ∃ m, m < gk ∧ Rt (G.set p { e with up := e2.up }) m e2.up r := by
        have h1 := HR2.out
        cases gk with
        | zero => obtain ⟨_, e', h2, h3⟩ := h1; rw [HE.out] at h2; injection h2 with h2; subst h2; exact absurd (HQ.out.symm.trans h3) hqp
        | succ k =>
          obtain ⟨e', h2, h3, h4⟩ := id h1
          rw [HE.out] at h2; injection h2 with h2; subst h2
          have h5 : ∃ e2, G[e.up]? = some e2 := by
            cases k with
            | zero => obtain ⟨_, x, hx, _⟩ := h4; exact ⟨x, hx⟩
            | succ j => obtain ⟨x, hx, _⟩ := h4; exact ⟨x, hx⟩
          obtain ⟨e2, h6⟩ := h5
          rw [HQ.out] at h6
          exact ⟨e2, h6, Rt.next HE.out HQ.out hqp h6 h1⟩
      have hql : q < L := by rw [← HGL2.out]; exact (List.getElem?_eq_some_iff.1 he2).1
      obtain ⟨t0, t1⟩ := pt_int hql
      obtain ⟨_, _, _, cq⟩ := nd_cells HOWN2.out he2
      obtain ⟨u, hu⟩ : ∃ u, e2.up = u := ⟨_, rfl⟩
      rw [hu] at cq hnx
      have hne : ((q : Int) == (p : Int)) = false := by simp; omega
      have hne' : ((q : Int) != (p : Int)) = true := by simp; omega
      have fp : wr.frozen? ⟨rb, p * 4 + 3, none⟩ = false := HOWN2.out.frozenAt _
      have HE2 := Lib.hid he2; have HU := Lib.hid hu; have HNX := Lib.hid hnx; have HQP := Lib.hid hqp
      clear he2 hu hnx hqp
      go_upto_region 2 with fail
      have hO3 := HO2.out.halve HE.out HQ.out HQP.out HE2.out
      have hown3 := nd_set HOWN2.out HE.out e2.up
      rw [HU.out] at hO3 hown3
      have hg3 := (HOWN2.out.stored (p * 4 + 3) (.int .i64 (u : Int))).2
      obtain ⟨V, hV⟩ : ∃ V, wr.setCell ⟨rb, p * 4 + 3, none⟩ (.int .i64 (u : Int)) = V := ⟨_, rfl⟩
      rw [hV] at hown3 hg3
      have ht3 : Turns (fun k => k = rb) w V := HT2.out.trans (Turns.of_grown hg3 (by rintro k ⟨⟩; rfl))
      have cb3 : V.cell? ⟨gb, 0, none⟩ = some (.slice (some ⟨rb, 0, none⟩) L cap) := by rw [← HL.out]; exact cell_box (ht3.heap HGV.out.box HNE.out) rfl rfl
      have cp3 : V.cell? ⟨rb, p * 4 + 3, none⟩ = some (.int .i64 (u : Int)) := (nd_cells hown3 (Ug.set_same HE.out)).2.2.2
      have HO3 := Lib.hid hO3; have HOWN3 := Lib.hid hown3; have HT3 := Lib.hid ht3; have HV := Lib.hid hV; have CB3 := Lib.hid cb3; have CP3 := Lib.hid cp3
      clear hO3 hown3 hg3 hV ht3 cb3 cp3
      go_region_law (fail)
      all_goals
        rw [HV.out]
        have cb3 := CB3.out; have cp3 := CP3.out
        clear cb cp cq fp t0 t1 hne hne'
        obtain ⟨m', hm', hr'⟩ := HNX.out
        go_wp2_with fail
        go_roundg m'
        case measure => exact hm'
        case rel => exact ⟨_, u, rfl, HO3.out, hr', HOWN3.out, HT3.out.trans (Turns.drew _ _)⟩
end Go.Proofs.Ytncdbbjkafgphaa
namespace Go.Proofs.Ytncdbbjkafgphaa
open Go Go.RowKit
open Tp (T)
open Ug (Of Rt)

/-- Below n, what is none of M stays. -/
structure Kp (n : Nat) (M : Nat → Prop) (w w' : World) : Prop where
  os : w'.os = w.os
  tape : w'.tape = w.tape
  output : w'.output = w.output
  size : w.heap.size ≤ w'.heap.size
  block : ∀ k, k < n → ¬ M k → w'.heap[k]? = w.heap[k]?
theorem Kp.refl (n : Nat) (M : Nat → Prop) (w : World) : Kp n M w w := ⟨rfl, rfl, rfl, Nat.le_refl _, fun _ _ _ => rfl⟩
theorem Kp.trans {n : Nat} {M : Nat → Prop} {a b c : World} (h : Kp n M a b) (k : Kp n M b c) : Kp n M a c :=
  ⟨k.os.trans h.os, k.tape.trans h.tape, k.output.trans h.output, Nat.le_trans h.size k.size, fun i hi hM => (k.block i hi hM).trans (h.block i hi hM)⟩
theorem Kp.mono {n n' : Nat} {M M' : Nat → Prop} {a b : World} (h : Kp n M a b) (hn : n' ≤ n) (hM : ∀ k, k < n' → M k → M' k) : Kp n' M' a b :=
  ⟨h.os, h.tape, h.output, h.size, fun i hi hm => h.block i (by omega) fun x => hm (hM i hi x)⟩
theorem Kp.of_turns {n : Nat} {M M' : Nat → Prop} {a b : World} (h : Turns M a b) (hn : n ≤ a.heap.size) (hM : ∀ k, M k → M' k) : Kp n M' a b :=
  ⟨h.os, h.tape, h.output, h.size, fun i hi hm => h.block i (by omega) fun x => hm (hM i x)⟩
theorem Kp.of_below {n : Nat} {M : Nat → Prop} {a b : World} (h : Below n a b) : Kp n M a b := ⟨h.os, h.tape, h.output, h.size, fun i hi _ => h.block i hi⟩
theorem Kp.below {n m : Nat} {M : Nat → Prop} {a b : World} (h : Kp n M a b) (hn : m ≤ n) (hM : ∀ k, M k → m ≤ k) : Below m a b :=
  ⟨h.os, h.tape, h.output, h.size, fun i hi => h.block i (by omega) fun x => by have := hM i x; omega⟩
theorem Kp.alloc {n : Nat} {M : Nat → Prop} {a b : World} (h : Kp n M a b) (hn : n ≤ b.heap.size) (o : Obj) : Kp n M a (b.alloc o) := h.trans (.of_below ((Below.refl n b).alloc hn o))
theorem Kp.drew {n : Nat} {M : Nat → Prop} {a b : World} (h : Kp n M a b) : Kp n M a b.drew := ⟨h.os, h.tape, h.output, h.size, h.block⟩
theorem Kp.drewN {n : Nat} {M : Nat → Prop} {a b : World} (h : Kp n M a b) (j : Nat) : Kp n M a (b.drewN j) := ⟨h.os, h.tape, h.output, h.size, h.block⟩
theorem Kp.setCell {n : Nat} {M : Nat → Prop} {a b : World} (h : Kp n M a b) {p : Addr} (hp : n ≤ p.block ∨ M p.block) (v : Value) : Kp n M a (b.setCell p v) := by
  refine h.trans ⟨rfl, rfl, rfl, by simp [World.setCell], fun i hi hM => Below.heap_setCell _ _ _ i fun e => ?_⟩
  rcases hp with hp | hp
  · omega
  · exact hM (e ▸ hp)
theorem Kp.grown {n : Nat} {M : Nat → Prop} {a b c : World} {row : Option Nat} (h : Kp n M a b) (hg : b.grownBy c row) (hn : n ≤ b.heap.size) (hr : ∀ k, row = some k → n ≤ k ∨ M k) : Kp n M a c :=
  h.trans ⟨hg.os, hg.tape, hg.output, hg.size, fun i hi hM => hg.block i (by omega) fun e => by
    rcases hr i e.symm with hp | hp
    · omega
    · exact hM hp⟩
theorem Kp.heap {n : Nat} {M : Nat → Prop} {a b : World} (h : Kp n M a b) {k : Nat} {o : Obj} (hk : a.heap[k]? = some o) (hn : k < n) (hM : ¬ M k) : b.heap[k]? = some o := (h.block k hn hM).trans hk
/-- The graph stays where neither its box nor its row is turned. -/
theorem GV.same {B gb : Nat} {m v : Value} {w w' : World} {H : List GNd} (h : GV B gb m v w H) (hg : w'.heap[gb]? = w.heap[gb]?) (hr : ∀ k, v.ownBlock = some k → w'.heap[k]? = w.heap[k]?) : GV B gb m v w' H := by
  obtain ⟨G, h1, h2⟩ := h.row
  exact ⟨⟨G, h1, own_same h2 hr⟩, hg.trans h.box, h.lo⟩
theorem arity_le (k : Int) : Tp.arity k ≤ 2 := by unfold Tp.arity; split <;> (try split) <;> (try split) <;> omega
/-- Pairs of places on a stack. -/
def pqCells (x : Nat × Nat) : List Value := [.int .i64 (x.1 : Int), .int .i64 (x.2 : Int)]
def pqRow (S : List (Nat × Nat)) : List Value := S.flatMap pqCells
theorem pqRow_len : ∀ S : List (Nat × Nat), (pqRow S).length = S.length * 2
  | [] => rfl
  | e :: r => by
    have := pqRow_len r
    simp only [pqRow, List.flatMap_cons, List.length_append, List.length_cons, pqCells, List.length_nil] at this ⊢
    omega
theorem pqRow_snoc (S : List (Nat × Nat)) (e : Nat × Nat) : pqRow (S ++ [e]) = pqRow S ++ pqCells e := by simp [pqRow]
theorem elem_pq : Try.prog.underlying 101 = some (.slice (Try.prog.elem 101)) := by kernel_rfl
theorem size_pq (w : World) : (sizeOf (Try.prog.elem 101)).run Try.prog w = .ok 2 w := by kernel_rfl
theorem info_pq : (Try.prog.info? 100).map (fun i => (i.zero, i.size, i.bytes)) = some (some (.agg #[.int .i64 0, .int .i64 0]), 2, 16) := by kernel_rfl
theorem pq_pop (g n cap k : Nat) (hk : k ≤ n) (hn : n ≤ cap) (w' : World) :
    (Instr.slice 101 (.slice (some ⟨g, 0, none⟩) n cap) none (some (.int .i64 (k : Int))) none).run Try.prog w' = .ok (.slice (some ⟨g, 0, none⟩) k cap) w' := by
  rw [run_slice_h w' _ _ n cap elem_pq .i64 (k : Int) (by omega) (by omega), size_pq]
  simp [Result.andThen, sliced, add_flat]
theorem own_topP {w : World} {base : Nat} {v : Value} {R : List (Nat × Nat)} {e : Nat × Nat} (h : w.ownsRow base 100 2 v (R.length + 1) (pqRow (e :: R).reverse)) :
    ∃ g cap, v = .slice (some ⟨g, 0, none⟩) (R.length + 1) cap ∧ base ≤ g ∧ g < w.heap.size ∧ R.length + 1 ≤ cap ∧ cap ≤ maxLen ∧ w.cell? ⟨g, R.length * 2, none⟩ = some (.int .i64 (e.1 : Int)) ∧ w.cell? ⟨g, R.length * 2 + 1, none⟩ = some (.int .i64 (e.2 : Int)) ∧
      w.ownsRow base 100 2 (.slice (some ⟨g, 0, none⟩) R.length cap) R.length (pqRow R.reverse) := by
  rw [List.reverse_cons, pqRow_snoc] at h
  obtain ⟨h1, h2 | ⟨g, cap, cur, h3, h4, h5, h6, h7, h8, h9⟩⟩ := id h
  · omega
  · subst h3
    have hlen := pqRow_len R.reverse
    rw [List.length_reverse] at hlen
    have hc := h.cells (g := g) rfl
    refine ⟨g, cap, rfl, h4, (Array.getElem?_eq_some_iff.1 h5).1, h6, h7, ?_, ?_, own_take h (Nat.le_succ _) hlen⟩
    · have := hc (R.length * 2) (.int .i64 (e.1 : Int)) (by rw [← hlen, List.getElem?_append_right (Nat.le_refl _), Nat.sub_self]; rfl)
      rwa [add_flat, Nat.zero_add] at this
    · have := hc (R.length * 2 + 1) (.int .i64 (e.2 : Int)) (by rw [← hlen, List.getElem?_append_right (by omega), Nat.add_sub_cancel_left]; rfl)
      rwa [add_flat, Nat.zero_add] at this
theorem own_mk {B sz n cap : Nat} {e : TypeId} {w : World} {A : Array Value} {b : Nat} (h : w.heap[b]? = some (.cells A e)) (hb : B ≤ b) (hn : n ≤ cap) (hc : cap ≤ maxLen) (hs : A.size = cap * sz) : w.ownsRow B e sz (.slice (some ⟨b, 0, none⟩) n cap) n (A.toList.take (n * sz)) :=
  ⟨by rw [List.length_take, Array.length_toList, hs, Nat.min_eq_left (Nat.mul_le_mul_right _ hn)], .inr ⟨b, cap, A, rfl, hb, h, hn, hc, hs, rfl⟩⟩
theorem b16 {r : Nat} (h : r ≤ 4 * 1000000) : (r + 1) * 16 ≤ 140737488355328 ∧ r + 1 ≤ maxLen := by unfold maxLen; omega
theorem two_ints (a b : Int) : ∀ u ∈ [Value.int .i64 a, .int .i64 b], u.oneCell' = true := by
  intro u hu
  simp only [List.mem_cons, List.not_mem_nil, or_false] at hu
  rcases hu with rfl | rfl <;> rfl
end Go.Proofs.Ytncdbbjkafgphaa
namespace Go.Proofs.Ytncdbbjkafgphaa
open Go Go.RowKit
open Tp (T)
open Ug (Of Rt)
theorem vk_row : (105 : TypeId) < Try.prog.types.size := of_decide_eq_true (by kernel_rfl)
theorem vk_wide : (match Try.prog.underlying 105 with | some (.array _ _) | some (.struct _) => true | _ => false) = true := by rw [Try.underlying105]
set_option maxRecDepth 100000 in
theorem vk_law : Maps.Keyed Try.prog 105 := Maps.Keyed.of_law (deep_law_laid laidOut (m := 3) (by omega) vk_row (by kernel_rfl) vk_wide)
theorem vk_cells : Try.prog.cellsOf 105 = 2 ∧ Try.prog.cellsOf 3 = 1 := ⟨by kernel_rfl, by kernel_rfl⟩
set_option maxRecDepth 100000 in
theorem vk_type : Try.prog.keyType 105 = true := by kernel_rfl
theorem vk_size : ∃ m, Try.prog.types.size = m + 1 := ⟨_, (Nat.succ_pred_eq_of_pos (Nat.lt_of_le_of_lt (Nat.zero_le _) vk_row)).symm⟩
theorem vk_int {a : Int} (ha : I64 a) (d : Nat) : Try.prog.keyLits (d + 1) 3 [.int .i64 a] = some [.int .i64 a] := by
  have hw : (Lit.int .i64 a).wf = true := wf_of ha
  simp [Program.keyLits, Try.underlying3, hw]
theorem vk_lits {a b : Int} (ha : I64 a) (hb : I64 b) (d : Nat) : Try.prog.keyLits (d + 1 + 1) 105 [.int .i64 a, .int .i64 b] = some [.int .i64 a, .int .i64 b] := by
  have h1 : (Lit.int .i64 a).wf = true := wf_of ha
  have h2 : (Lit.int .i64 b).wf = true := wf_of hb
  simp [Program.keyLits, Try.underlying105, Try.underlying3, vk_cells.1, vk_cells.2, h1, h2]
theorem vk_key {a b : Int} (ha : I64 a) (hb : I64 b) : ∃ kl, keyOf Try.prog 105 (.agg #[.int .i64 a, .int .i64 b]) = some kl := by
  obtain ⟨m, hm⟩ := vk_size
  have h := vk_lits ha hb m
  rw [← hm] at h
  have hf : (Value.agg #[.int .i64 a, .int .i64 b]).formed Try.prog 105 = true := by simp [Value.formed, Try.underlying105, vk_cells]
  unfold keyOf
  rw [Try.underlying105]
  dsimp only
  rw [vk_type, hf]
  simp only [Bool.and_self, if_true]
  exact ⟨_, by show Option.map _ (Try.prog.keyLits _ _ [.int .i64 a, .int .i64 b]) = _; rw [h]; rfl⟩
/-- Block b holds where each variable stands first. -/
def VAt (W : World) (b n : Nat) (F : Ug.Fi) : Prop := ∃ D : DataW Unit, W.ownsMap Try.prog 105 (plainElem Try.prog 3) b n D ∧
  ∀ o k, I64 o → I64 k → ∀ kl, keyOf Try.prog 105 (.agg #[.int .i64 o, .int .i64 k]) = some kl → Maps.has D kl = (F o k).isSome ∧ ∀ p, F o k = some p → D.atKey kl (.lit (.int .i64 0)) = .lit (.int .i64 (p : Int))
theorem VAt.same {W W' : World} {b n : Nat} {F : Ug.Fi} (h : VAt W b n F) (hs : W'.heap[b]? = W.heap[b]?) : VAt W' b n F := by
  obtain ⟨D, ⟨es, cl, h1, h2⟩, h3⟩ := h
  exact ⟨D, ⟨es, cl, hs.trans h1, h2⟩, h3⟩
theorem VAt.lt {W : World} {b n : Nat} {F : Ug.Fi} (h : VAt W b n F) : b < W.heap.size := by
  obtain ⟨D, h1, _⟩ := h
  exact h1.lt
theorem vk_new (w : World) : VAt (w.alloc (.map #[] 0)) w.heap.size 0 (fun _ _ => none) :=
  ⟨.map [], World.ownsMap_made w _ _ _, fun _ _ _ _ _ _ => ⟨rfl, fun _ h => by cases h⟩⟩
theorem vk_zero (w : World) : (zeroValue 3).run Try.prog w = .ok (.int .i64 0) w := by kernel_rfl
set_option maxRecDepth 100000 in
theorem vk_look {W : World} {b n : Nat} {F : Ug.Fi} (h : VAt W b n F) {o k : Int} (ho : I64 o) (hk : I64 k) :
    (Instr.lookup 59 (.map (some b)) (.agg #[.int .i64 o, .int .i64 k]) true).run Try.prog W = .ok (.tuple #[.int .i64 (((F o k).getD 0 : Nat) : Int), .bool (F o k).isSome]) W := by
  obtain ⟨D, h1, h2⟩ := h
  obtain ⟨kl, hkl⟩ := vk_key ho hk
  obtain ⟨g1, g2⟩ := h2 o k ho hk kl hkl
  have hz : plainElem (H := Unit) Try.prog 3 (.int .i64 0) = some (.lit (.int .i64 0), []) := plainElem_int Try.underlying3 (by decide)
  obtain ⟨v, ps, hrun, hv⟩ := h1.look_ok vk_law (t := 59) (e := 3) Try.underlying59 (vk_zero W) hz hkl
  rw [g1] at hrun
  obtain ⟨c, rfl, hc, _⟩ := plainElem_int_inv Try.underlying3 hv
  simp only [Prod.mk.injEq] at hc
  have hc1 : D.atKey kl (.lit (.int .i64 0)) = .lit (.int .i64 c) := hc.1.symm ▸ rfl
  have hcc : c = (((F o k).getD 0 : Nat) : Int) := by
    cases hF : F o k with
    | none =>
      rw [Maps.atKey_of_not_has (by rw [g1, hF]; rfl) _] at hc1
      injection hc1 with h3; injection h3 with _ h3
      exact h3.symm
    | some p =>
      rw [g2 p hF] at hc1
      injection hc1 with h3; injection h3 with _ h3
      exact h3.symm
  rw [hrun, hcc]
/-- One variable more. -/
def putF (F : Ug.Fi) (o k : Int) (p : Nat) : Ug.Fi := fun a n => if a = o ∧ n = k then some p else F a n
set_option maxRecDepth 100000 in
theorem vk_put {W : World} {b n : Nat} {F : Ug.Fi} (h : VAt W b n F) {o k : Int} (ho : I64 o) (hk : I64 k) {p : Nat} (hp : p ≤ 4 * 1000000) (hn : n ≤ 4 * 1000000) :
    ∃ W', (Instr.mapUpdate 59 (.map (some b)) (.agg #[.int .i64 o, .int .i64 k]) (.int .i64 (p : Int))).run Try.prog W = .ok () W' ∧ VAt W' b (n + 1) (putF F o k p) ∧ W.grownBy W' (some b) := by
  obtain ⟨D, h1, h2⟩ := h
  obtain ⟨kl, hkl⟩ := vk_key ho hk
  have hwf : (Lit.int .i64 (p : Int)).wf = true := wf_of (show I64 (p : Int) by unfold I64; omega)
  obtain ⟨w', r1, r2, r3⟩ := h1.update vk_law (t := 59) (e := 3) Try.underlying59 (by unfold maxLen; omega) hkl (plainElem_int Try.underlying3 hwf)
  refine ⟨w', r1, ⟨_, r2, fun o' k' ho' hk' kl' hkl' => ?_⟩, r3⟩
  by_cases he : o' = o ∧ k' = k
  · obtain ⟨rfl, rfl⟩ := he
    rw [hkl] at hkl'; injection hkl' with hkl'; subst hkl'
    have hK : WideAt.IsKeyLit kl := vk_law.key hkl
    refine ⟨?_, fun q hq => ?_⟩
    · rw [Maps.has_put_same h1.isMap hK]; simp [putF]
    · rw [Maps.atKey_put_same h1.isMap hK]
      simp only [putF, and_self, if_true, Option.some.injEq] at hq
      rw [hq]
  · have hne : kl' ≠ kl := fun e => he (by
      have := vk_law.inj hkl' (e ▸ hkl)
      injection this with this
      have h3 := congrArg Array.toList this
      simp at h3
      exact h3)
    obtain ⟨g1, g2⟩ := h2 o' k' ho' hk' kl' hkl'
    have e : putF F o k p o' k' = F o' k' := if_neg he
    rw [e]
    refine ⟨?_, fun q hq => ?_⟩
    · rw [Maps.has_put_other hne]; exact g1
    · rw [Maps.atKey_put_other hne]; exact g2 q hq
end Go.Proofs.Ytncdbbjkafgphaa
namespace Go.Proofs.Ytncdbbjkafgphaa
open Go Go.RowKit
open Tp (T)
/-- What is stored reads as it stands. -/
def whole (v : Value) : Option (DataW Value × List MemPlace) := some (.held v, [])
def keV (e : Ke) : Value := .agg #[.int .i64 e.t.kind, .int .i64 e.t.num, .slice e.a e.t.kids.length e.cap]
abbrev TMap := Int → Option Ke
/-- Block b holds a type for each of some numbers. -/
def TMAt (W : World) (b n : Nat) (M : TMap) : Prop := ∃ D : DataW Value, W.ownsMap Try.prog 3 whole b n D ∧
  ∀ k, I64 k → ∀ kl, keyOf Try.prog 3 (.int .i64 k) = some kl → Maps.has D kl = (M k).isSome ∧ ∀ e, M k = some e → ∀ z, D.atKey kl z = .held (keV e)
theorem TMAt.same {W W' : World} {b n : Nat} {M : TMap} (h : TMAt W b n M) (hs : W'.heap[b]? = W.heap[b]?) : TMAt W' b n M := by
  obtain ⟨D, ⟨es, cl, h1, h2⟩, h3⟩ := h
  exact ⟨D, ⟨es, cl, hs.trans h1, h2⟩, h3⟩
theorem TMAt.lt {W : World} {b n : Nat} {M : TMap} (h : TMAt W b n M) : b < W.heap.size := by
  obtain ⟨D, h1, _⟩ := h
  exact h1.lt
theorem TMAt.block {W : World} {b n : Nat} {M : TMap} (h : TMAt W b n M) : ∃ o, W.heap[b]? = some o ∧ ∀ A s, o ≠ .cells A s := by
  obtain ⟨D, ⟨es, cl, h1, _⟩, _⟩ := h
  exact ⟨_, h1, fun A s h => by cases h⟩
theorem tm_new (w : World) : TMAt (w.alloc (.map #[] 0)) w.heap.size 0 (fun _ => none) :=
  ⟨.map [], World.ownsMap_made w _ _ _, fun _ _ _ _ => ⟨rfl, fun _ h => by cases h⟩⟩
theorem tm_zero (w : World) : (zeroValue 24).run Try.prog w = .ok (.agg #[.int .i64 0, .int .i64 0, .slice none 0 0]) w := by kernel_rfl
theorem tm_key {k : Int} (hk : I64 k) : keyOf Try.prog 3 (.int .i64 k) = some (.int .i64 k) := Maps.keyOf_int_mk Try.underlying3 (wf_of hk)
/-- What a look at a number yields. -/
def tmV (M : TMap) (k : Int) : Value := match M k with | some e => keV e | none => .agg #[.int .i64 0, .int .i64 0, .slice none 0 0]
set_option maxRecDepth 100000 in
theorem tm_look {W : World} {b n : Nat} {M : TMap} (h : TMAt W b n M) {k : Int} (hk : I64 k) (c : Bool) :
    (Instr.lookup 54 (.map (some b)) (.int .i64 k) c).run Try.prog W = .ok (if c then .tuple #[tmV M k, .bool (M k).isSome] else tmV M k) W := by
  obtain ⟨D, ⟨es, cl, hb, F, hz, hD⟩, h2⟩ := h
  obtain ⟨g1, g2⟩ := h2 k hk _ (tm_key hk)
  rcases Maps.fit_look c (Maps.int_keyed Try.underlying3) (t := 54) (e := 24) Try.underlying54 (tm_zero W) hb F (tm_key hk) with ⟨hrun, _, hat⟩ | ⟨e0, y, _, _, hrun, hRv, hat, _⟩
  · have hM : M k = none := by
      cases hM : M k with
      | none => rfl
      | some e =>
        have h3 := g2 e hM (.held (.bool true))
        have h4 := g2 e hM (.held (.bool false))
        rw [hD, hat] at h3 h4
        rw [← h3] at h4
        injection h4 with h4
        injection h4 with h4
        cases h4
    rw [hrun]
    unfold tmV
    rw [hM]; rfl
  · have hy : y = (.held e0.val, []) := by unfold whole at hRv; injection hRv with hRv; exact hRv.symm
    subst hy
    cases hM : M k with
    | none =>
      have : Maps.has D (.int .i64 k) = true := by rw [hD]; exact Maps.has_true_of_atKey hat
      rw [g1, hM] at this; cases this
    | some e =>
      have h3 := g2 e hM (.held (.bool true))
      rw [hD, hat] at h3
      injection h3 with h3
      rw [hrun]
      unfold tmV
      rw [hM]
      dsimp only
      rw [← h3]; rfl
/-- One number more, or anew. -/
def tmPut (M : TMap) (k : Int) (e : Ke) : TMap := fun i => if i = k then some e else M i
set_option maxRecDepth 100000 in
theorem tm_put {W : World} {b n : Nat} {M : TMap} (h : TMAt W b n M) {k : Int} (hk : I64 k) (e : Ke) (hn : n ≤ 4 * 1000000) :
    ∃ W', (Instr.mapUpdate 54 (.map (some b)) (.int .i64 k) (keV e)).run Try.prog W = .ok () W' ∧ TMAt W' b (n + 1) (tmPut M k e) ∧ W.grownBy W' (some b) := by
  obtain ⟨D, h1, h2⟩ := h
  obtain ⟨w', r1, r2, r3⟩ := h1.update (Maps.int_keyed Try.underlying3) (t := 54) (e := 24) Try.underlying54 (by unfold maxLen; omega) (tm_key hk) (val := keV e) (d := .held (keV e)) (ps := []) rfl
  refine ⟨w', r1, ⟨_, r2, fun i hi kl hkl => ?_⟩, r3⟩
  rw [tm_key hi] at hkl; injection hkl with hkl; subst hkl
  by_cases he : i = k
  · subst he
    refine ⟨?_, fun q hq z => ?_⟩
    · rw [Maps.has_put_same h1.isMap (show WideAt.IsKeyLit (.int .i64 i) from trivial)]; simp [tmPut]
    · rw [Maps.atKey_put_same h1.isMap (show WideAt.IsKeyLit (.int .i64 i) from trivial)]
      simp only [tmPut, if_true, Option.some.injEq] at hq
      rw [hq]
  · have hne : (Lit.int .i64 i) ≠ .int .i64 k := fun x => he (by injection x)
    obtain ⟨g1, g2⟩ := h2 i hi _ (tm_key hi)
    have e' : tmPut M k e i = M i := if_neg he
    rw [e']
    refine ⟨?_, fun q hq z => ?_⟩
    · rw [Maps.has_put_other hne]; exact g1
    · rw [Maps.atKey_put_other hne]; exact g2 q hq z
end Go.Proofs.Ytncdbbjkafgphaa
namespace Go.Proofs.Ytncdbbjkafgphaa
open Go Go.RowKit
open Tp (T)
open Ug (Of Rt)
set_option maxRecDepth 100000 in
set_option maxHeartbeats 4000000 in
theorem firstOf_any (gb mb n : Nat) (v : Value) (F : Ug.Fi) (o k : Int) (h : Nat) (w : World) (hb : w.heap[gb]? = some (.cells #[v, .map (some mb)] 62)) (hm : VAt w mb n F) (hn : n ≤ 4 * 1000000) (ho : I64 o) (hk : I64 k) (hh : h ≤ 4 * 1000000) :
    Calls Try.prog 76 #[.pointer (some ⟨gb, 0, none⟩), .agg #[.int .i64 o, .int .i64 k], .int .i64 (h : Int)] w fun e w' =>
      (∃ p, F o k = some p ∧ e = .returned (.int .i64 (p : Int)) ∧ VAt w' mb n F ∧ Kp w.heap.size (fun _ => False) w w') ∨
      (F o k = none ∧ e = .returned (.int .i64 (h : Int)) ∧ VAt w' mb (n + 1) (putF F o k h) ∧ Kp w.heap.size (fun z => z = mb) w w') := by
  have hgl : gb < w.heap.size := (Array.getElem?_eq_some_iff.1 hb).1
  have hml := hm.lt
  have hgm : gb ≠ mb := fun e => by
    obtain ⟨D, ⟨es, cl, h1, _⟩, _⟩ := hm
    rw [← e, hb] at h1; cases h1
  obtain ⟨W1, hW1⟩ : ∃ W, w.alloc (.cells #[.int .i64 o, .int .i64 k] 105) = W := ⟨_, rfl⟩
  have hk1 : Kp w.heap.size (fun _ => False) w W1 := by rw [← hW1]; exact (Kp.refl _ _ _).alloc (Nat.le_refl _) _
  have hx1 : W1.heap[w.heap.size]? = some (.cells #[.int .i64 o, .int .i64 k] 105) := by rw [← hW1]; exact World.alloc_heap_new _ _
  have hg1 : W1.heap[gb]? = some (.cells #[v, .map (some mb)] 62) := hk1.heap hb hgl (fun h => h)
  have hm1 : VAt W1 mb n F := hm.same (hk1.block mb hml (fun h => h))
  have HW1 := Lib.hid hW1; have HK1 := Lib.hid hk1; have HX1 := Lib.hid hx1; have HG1 := Lib.hid hg1; have HM1 := Lib.hid hm1; have HGL := Lib.hid hgl; have HML := Lib.hid hml; have HGM := Lib.hid hgm; have HO := Lib.hid ho; have HK := Lib.hid hk; have HN := Lib.hid hn; have HH := Lib.hid hh
  clear hW1 hk1 hx1 hg1 hm1 hgl hml hgm ho hk hn hh hb hm
  go_enter Try.func76, Try.ntmps76
  go_upto_region 1 with fail
  rw [HW1.out]
  refine wp_region_rel (R := Turns (fun _ => False)) (fun _ => Turns.refl _ _) (fun h1 h2 => h1.trans h2) [(0, false), (0, false), (0, false), (0, false), (0, false), (0, false), (0, false), (0, false), (0, false), (0, false), (0, false)] (by kernel_rfl) (by kernel_rfl) (by kernel_rfl) (fun _ _ _ d _ h => by cases d <;> exact h) ?_
  have HC := Lib.hid (fun q (hq : Turns (fun _ => False) W1.drew q) => (⟨cell_box (hq.heap HG1.out (fun h => h)) rfl rfl, cell_box (hq.heap HX1.out (fun h => h)) rfl rfl, cell_box (hq.heap HX1.out (fun h => h)) rfl rfl, vk_look (HM1.out.same (hq.block mb HM1.out.lt (fun h => h))) HO.out HK.out⟩ :
    q.cell? ⟨gb, 1, none⟩ = some (.map (some mb)) ∧ q.cell? ⟨w.heap.size, 0, none⟩ = some (.int .i64 o) ∧ q.cell? ⟨w.heap.size, 1, none⟩ = some (.int .i64 k) ∧
    (Instr.lookup 59 (.map (some mb)) (.agg #[.int .i64 o, .int .i64 k]) true).run Try.prog q = .ok (.tuple #[.int .i64 (((F o k).getD 0 : Nat) : Int), .bool (F o k).isSome]) q))
  obtain ⟨fo, hfo⟩ : ∃ z, F o k = z := ⟨_, rfl⟩
  rw [hfo] at HC
  have HFO := Lib.hid hfo; clear hfo
  repeat
    first
    | (first | with_reducible refine rp0 (fun K hK => ?_) | with_reducible refine rp1 (fun K hK => ?_) | with_reducible refine rp2 (fun K hK => ?_) | with_reducible refine rp3 (fun K hK => ?_) | with_reducible refine rp4 (fun K hK => ?_)
       go_simp
       first
       | (with_reducible refine hK _ _ ?_; clear hK K)
       | (with_reducible apply Exists.intro
          refine ⟨fun x hx => ?_, hK _ _ ?_⟩
          first
            | (with_reducible exact rfl)
            | (have y0 := (HC.out x hx).1; have y1 := (HC.out x hx).2.1; have y2 := (HC.out x hx).2.2.1; have y3 := (HC.out x hx).2.2.2; go_simp; done)
            | (have y0 := (HC.out x hx).1; have y1 := (HC.out x hx).2.1; have y2 := (HC.out x hx).2.2.1; have y3 := (HC.out x hx).2.2.2; go_simp; with_reducible exact rfl)
          clear hK K))
    | (first | with_reducible refine rk0 ?_ (fun K hK => ?_) | with_reducible refine rk1 ?_ (fun K hK => ?_) | with_reducible refine rk2 ?_ (fun K hK => ?_) | with_reducible refine rk3 ?_ (fun K hK => ?_) | with_reducible refine rk4 ?_ (fun K hK => ?_)
       rfl
       go_simp
       with_reducible refine hK _ _ ?_
       clear hK K)
  with_reducible refine rel_nil ?_
  cases fo with
  | some p =>
    go_wp2_with fail
    go_ret
    exact .inl ⟨p, HFO.out, rfl, HM1.out.same rfl, HK1.out.drew⟩
  | none =>
    go_upto_region 3 with fail
    refine wp_region_rel (R := Turns (fun z => z = mb)) (fun _ => Turns.refl _ _) (fun h1 h2 => h1.trans h2) [(0, false), (0, false), (0, false), (0, false), (0, false), (0, false), (0, true)] (by kernel_rfl) (by kernel_rfl) (by kernel_rfl) (fun _ _ _ d _ h => by cases d <;> exact h) ?_
    have hbm : w.heap.size ≠ mb := by have := HML.out; omega
    have HC2 := Lib.hid (fun q (hq : Turns (fun z => z = mb) W1.drew.drew q) => (⟨cell_box (hq.heap HG1.out HGM.out) rfl rfl, cell_box (hq.heap HX1.out hbm) rfl rfl, cell_box (hq.heap HX1.out hbm) rfl rfl⟩ :
      q.cell? ⟨gb, 1, none⟩ = some (.map (some mb)) ∧ q.cell? ⟨w.heap.size, 0, none⟩ = some (.int .i64 o) ∧ q.cell? ⟨w.heap.size, 1, none⟩ = some (.int .i64 k)))
    obtain ⟨W2, hu, hv2, hg2⟩ := vk_put (W := W1.drew.drew) (HM1.out.same rfl) HO.out HK.out (p := h) HH.out HN.out
    have HV2 := Lib.hid hv2; have HG2 := Lib.hid hg2
    clear hv2 hg2 hbm HC
    repeat
      first
      | (first | with_reducible refine rp0 (fun K hK => ?_) | with_reducible refine rp1 (fun K hK => ?_) | with_reducible refine rp2 (fun K hK => ?_) | with_reducible refine rp3 (fun K hK => ?_) | with_reducible refine rp4 (fun K hK => ?_)
         go_simp
         first
         | (with_reducible refine hK _ _ ?_; clear hK K)
         | (with_reducible apply Exists.intro
            refine ⟨fun x hx => ?_, hK _ _ ?_⟩
            first
              | (with_reducible exact rfl)
              | (have y0 := (HC2.out x hx).1; have y1 := (HC2.out x hx).2.1; have y2 := (HC2.out x hx).2.2; go_simp; done)
              | (have y0 := (HC2.out x hx).1; have y1 := (HC2.out x hx).2.1; have y2 := (HC2.out x hx).2.2; go_simp; with_reducible exact rfl)
            clear hK K))
      | (first | with_reducible refine rk0 ?_ (fun K hK => ?_) | with_reducible refine rk1 ?_ (fun K hK => ?_) | with_reducible refine rk2 ?_ (fun K hK => ?_) | with_reducible refine rk3 ?_ (fun K hK => ?_) | with_reducible refine rk4 ?_ (fun K hK => ?_)
         rfl
         go_simp
         with_reducible refine hK _ _ ?_
         clear hK K)
    first | with_reducible refine rc0 (fun K hK => ?_) | with_reducible refine rc1 (fun K hK => ?_) | with_reducible refine rc2 (fun K hK => ?_) | with_reducible refine rc3 (fun K hK => ?_) | with_reducible refine rc4 (fun K hK => ?_)
    go_simp
    refine ⟨Turns.of_grown HG2.out (by rintro z ⟨⟩; rfl), hK _ _ ?_⟩
    clear hK K
    with_reducible refine rel_nil ?_
    go_wp2_with fail
    go_ret
    exact .inr ⟨HFO.out, rfl, HV2.out, ((HK1.out.mono (Nat.le_refl _) (fun _ _ h => h.elim)).drew.drew).grown HG2.out (HK1.out.size) (by rintro z ⟨⟩; exact .inr rfl)⟩
end Go.Proofs.Ytncdbbjkafgphaa
namespace Go.Proofs.Ytncdbbjkafgphaa
open Go Go.RowKit
open Tp (T)
/-- Kids that lie, one by one. -/
theorem kids_ke {n : Nat} {w : World} : ∀ (l : List T) (a : Option Addr), KidsAt (LT n) w l a → ∃ ks : List Ke, ks.map Ke.t = l ∧ (∀ e ∈ ks, TyAt (LT n) w e.t e.a e.cap) ∧
    (l ≠ [] → ∃ b o, a = some ⟨b, o, none⟩ ∧ b < n ∧ ∀ j u, (rowCells ks)[j]? = some u → w.cell? ⟨b, o + j, none⟩ = some u)
  | [], _, _ => ⟨[], rfl, fun _ h => (by cases h), fun h => absurd rfl h⟩
  | t :: r, a, h => by
    obtain ⟨b, o, rfl, hb, hn, hr⟩ := h.head
    obtain ⟨xa, xc, hty, c0, c1, c2⟩ := hn.ty
    obtain ⟨ks, h1, h2, h3⟩ := kids_ke r _ hr
    refine ⟨⟨t, xa, xc⟩ :: ks, by rw [List.map_cons, h1], fun e he => ?_, fun _ => ⟨b, o, rfl, hb, fun j u hu => ?_⟩⟩
    · rcases List.mem_cons.1 he with rfl | he
      · exact hty
      · exact h2 e he
    · have e : rowCells (⟨t, xa, xc⟩ :: ks) = keCells ⟨t, xa, xc⟩ ++ rowCells ks := by simp [rowCells]
      rw [e] at hu
      by_cases hj : j < 3
      · rw [List.getElem?_append_left (by simp [keCells]; omega)] at hu
        match j, hj with
        | 0, _ => injection hu with hu; subst hu; exact c0
        | 1, _ => injection hu with hu; subst hu; exact c1
        | 2, _ => injection hu with hu; subst hu; exact c2
      · rw [List.getElem?_append_right (by simp [keCells]; omega)] at hu
        have hne : r ≠ [] := fun e => by
          subst e
          rw [List.map_eq_nil_iff] at h1
          subst h1
          simp [rowCells] at hu
        obtain ⟨b', o', e1, _, h5⟩ := h3 hne
        injection e1 with e1
        injection e1 with e1 e2
        subst e1 e2
        have := h5 (j - 3) u (by rw [show j - 3 = j - (keCells ⟨t, xa, xc⟩).length from by simp [keCells]]; exact hu)
        rw [show o + j = o + 3 + (j - 3) from by omega]; exact this
theorem run_append_none' {P : Program} {w : World} (base : Nat) (t ty e : TypeId) (i : TypeInfo) (size : Nat) (ht : P.underlying t = some (.slice e)) (hi : P.info? e = some i)
    (v : Value) (n c : Nat) (xs : List Value) (hown : w.ownsRow base e size v n xs) : (Builtin.append_ #[t, t] ty #[v, .slice none 0 c]).run P w = .ok v w := by
  rcases hown.2 with ⟨rfl, rfl⟩ | ⟨g, cap, cur, rfl, _, _, hnc, _⟩
  · simp [Builtin.append_, run_underlying ht, sizeOf, typeInfo, hi, Builtin.lenOf, Builtin.firstCells]
  · simp [Builtin.append_, run_underlying ht, sizeOf, typeInfo, hi, Builtin.lenOf, Builtin.firstCells, hnc, storeCells]
theorem keCells_one (ks : List Ke) : ∀ u ∈ rowCells ks, u.oneCell' = true := by
  intro u hu
  unfold rowCells at hu
  obtain ⟨e, _, he⟩ := List.mem_flatMap.1 hu
  simp only [keCells, List.mem_cons, List.not_mem_nil, or_false] at he
  rcases he with rfl | rfl | rfl <;> rfl
theorem rowCells_app (a b : List Ke) : rowCells (a ++ b) = rowCells a ++ rowCells b := by simp [rowCells]
set_option maxRecDepth 100000 in
theorem append_types {w : World} {ops : Array Oper} {rest : List Oper} {o : Oper} {act : Act} {Q : Exit → Act → World → Prop} (hgd : o.guard = none) (s x : Operand)
    (ho : o.op = .call { callee := .builtin .append, args := #[s, x], argTypes := #[22, 22] })
    (base : Nat) (v : Value) (k : Nat) (ks es : List Ke) (hs : act.eval s = v) (hown : w.ownsRow base 24 3 v k (rowCells ks)) (hk : k = ks.length)
    (a : Option Addr) (n c : Nat) (hx : act.eval x = .slice a n c) (hn : n = es.length) (hc : es ≠ [] → ∃ b o, a = some ⟨b, o, none⟩ ∧ ∀ j u, (rowCells es)[j]? = some u → w.cell? ⟨b, o + j, none⟩ = some u)
    (hlen : ks.length + es.length ≤ 4 * 1000000) (hbase : base ≤ w.heap.size)
    (h : ∀ v' w', w'.ownsRow base 24 3 v' (ks ++ es).length (rowCells (ks ++ es)) → w.grownBy w' v.ownBlock → wpList Try.prog ops Q rest (act.put o.dst v') w') : wpList Try.prog ops Q (o :: rest) act w := by
  obtain ⟨i0, hi, hz0, hz1, hz2⟩ := info_parts info_ty
  subst hk hn
  cases a with
  | none =>
    have he : es = [] := Classical.byContradiction fun hne => by obtain ⟨b, o, h1, _⟩ := hc hne; cases h1
    subst he
    refine wpList_plain hgd fun K hK => ?_
    have hrun := run_append_none' (P := Try.prog) (w := w) base 22 o.type 24 i0 3 Try.underlying22 hi v ks.length c (rowCells ks) hown
    unfold Oper.wp
    rw [List.length_nil] at hx
    simp [execOp, ho, resolve, invoke, builtin, hs, hx, hrun, Result.andThen]
    refine hK _ _ (h v w ?_ ⟨rfl, rfl, rfl, Nat.le_refl _, fun _ _ _ => rfl⟩)
    rw [List.append_nil]; exact hown
  | some ad =>
    refine wpList_append_own w hgd s x 22 ho base 24 i0 (.agg #[.int .i64 0, .int .i64 0, .slice none 0 0]) 3 40 Try.underlying22 hi hz0 hz1 hz2 rfl (by decide) v ks.length (rowCells ks) hs hown ad es.length c (rowCells es) hx (rowCells_length es) ?_ (keCells_one es) (by unfold maxLen; omega) (by omega) hbase ?_
    · intro j u hu
      have hne : es ≠ [] := fun e => by subst e; simp [rowCells] at hu
      obtain ⟨b, o, h1, h2⟩ := hc hne
      injection h1 with h1
      subst h1
      rw [add_flat]; exact h2 j u hu
    · intro v' w' h1 h2 _
      refine h v' w' ?_ h2
      rw [List.length_append, rowCells_app]; exact h1
end Go.Proofs.Ytncdbbjkafgphaa
