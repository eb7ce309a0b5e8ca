/- solve.Agree's steps, plainly. -/
import Derived.Test.YteolbbgnkbcfmaaSvI
namespace Go.Proofs.Yteolbbgnkbcfmaa
open Go Go.RowKit
open Tp (T)
open Sg (Of Rt Den Dens Alk Mkd trav travs rootOf kidsOf)
/-- The store, the pairs that are open, the pairs that were pushed. -/
structure Wrk where
  H : List SNd
  P : List Pr
  D : List (Nat × Nat)
def kdN (H : List SNd) (r : Nat) : List Nat := (kidsOf H r).map Int.toNat
def kd (H : List SNd) (r : Nat) : Int := match H[r]? with | some d => d.c.kind | none => 0
def lvl (H : List SNd) (r : Nat) : Int := match H[r]? with | some d => d.c.level | none => 0
theorem kd_of {H : List SNd} {r : Nat} {d : SNd} (h : H[r]? = some d) : kd H r = d.c.kind := by unfold kd; rw [h]
theorem lvl_of {H : List SNd} {r : Nat} {d : SNd} (h : H[r]? = some d) : lvl H r = d.c.level := by unfold lvl; rw [h]
/-- Kids pushed. -/
def psh (H : List SNd) (Q : List Pr) (D : List (Nat × Nat)) (x y : Nat) (fr : Bool) : Wrk := if (x, y) ∈ D ∨ x = y then ⟨H, Q, D⟩ else ⟨H, pks fr (kdN H x) (kdN H y) ++ Q, (x, y) :: D⟩
/-- One round. -/
inductive Stp : Wrk → Wrk → Prop
  | same {H : List SNd} {p : Pr} {Q : List Pr} {D : List (Nat × Nat)} {x y : Nat} (hx : rootOf H p.x = x) (hy : rootOf H p.y = y) (h : x = y) : Stp ⟨H, p :: Q, D⟩ ⟨H, Q, D⟩
  | dynL {H H2 : List SNd} {p : Pr} {Q : List Pr} {D : List (Nat × Nat)} {x y : Nat} {t : T} (hx : rootOf H p.x = x) (hy : rootOf H p.y = y) (hne : x ≠ y) (hk : kd H x = 5) (hD : Den H t y) (ha : Alk H H2) : Stp ⟨H, p :: Q, D⟩ ⟨lows H2 (varsOf H (trav H t y [])) 0, Q, D⟩
  | dynR {H H2 : List SNd} {p : Pr} {Q : List Pr} {D : List (Nat × Nat)} {x y : Nat} {t : T} (hx : rootOf H p.x = x) (hy : rootOf H p.y = y) (hne : x ≠ y) (hk : kd H x ≠ 5) (hk' : kd H y = 5) (hD : Den H t x) (ha : Alk H H2) : Stp ⟨H, p :: Q, D⟩ ⟨lows H2 (varsOf H (trav H t x [])) 0, Q, D⟩
  | varL {H Hb H3 : List SNd} {p : Pr} {Q : List Pr} {D : List (Nat × Nat)} {x y z : Nat} {t u : T} (hx : rootOf H p.x = x) (hy : rootOf H p.y = y) (hne : x ≠ y) (hk : kd H x = 6) (hk' : kd H y ≠ 5) (hD : Den H t y) (hno : ¬ x ∈ trav H t y []) (hb : Bec H t y (kd H y) (lvl H x) Hb z u) (ha : Alk Hb H3) :
      Stp ⟨H, p :: Q, D⟩ (psh (lnk H3 (varsOf Hb (trav Hb u z [])) (lvl H x) x z) Q D z y true)
  | varR {H Hb H3 : List SNd} {p : Pr} {Q : List Pr} {D : List (Nat × Nat)} {x y z : Nat} {t u : T} (hx : rootOf H p.x = x) (hy : rootOf H p.y = y) (hne : x ≠ y) (hk6 : kd H x ≠ 6) (hk : kd H x ≠ 5) (hk' : kd H y = 6) (hD : Den H t x) (hno : ¬ y ∈ trav H t x []) (hb : Bec H t x (kd H x) (lvl H y) Hb z u) (ha : Alk Hb H3) :
      Stp ⟨H, p :: Q, D⟩ (psh (lnk H3 (varsOf Hb (trav Hb u z [])) (lvl H y) y z) Q D x z true)
  | dec {H : List SNd} {p : Pr} {Q : List Pr} {D : List (Nat × Nat)} {x y : Nat} (hx : rootOf H p.x = x) (hy : rootOf H p.y = y) (hne : x ≠ y) (hk5 : kd H x ≠ 5) (hk6 : kd H x ≠ 6) (hk : kd H x = kd H y) : Stp ⟨H, p :: Q, D⟩ (psh H Q D x y false)
/-- Where a round fails, with what. -/
inductive Bad : Wrk → Int → Int → Int → Prop
  | clash {H : List SNd} {p : Pr} {Q : List Pr} {D : List (Nat × Nat)} {x y : Nat} (hx : rootOf H p.x = x) (hy : rootOf H p.y = y) (hne : x ≠ y) (h1 : kd H x ≠ 5) (h2 : kd H y ≠ 5) (h3 : kd H x ≠ 6) (h4 : kd H y ≠ 6) (hk : kd H x ≠ kd H y) : Bad ⟨H, p :: Q, D⟩ (kd H x) (kd H y) 4
  | loopL {H : List SNd} {p : Pr} {Q : List Pr} {D : List (Nat × Nat)} {x y : Nat} {t : T} (hx : rootOf H p.x = x) (hy : rootOf H p.y = y) (hne : x ≠ y) (hk : kd H x = 6) (hk' : kd H y ≠ 5) (hD : Den H t y) (hin : x ∈ trav H t y []) : Bad ⟨H, p :: Q, D⟩ 0 0 5
  | loopR {H : List SNd} {p : Pr} {Q : List Pr} {D : List (Nat × Nat)} {x y : Nat} {t : T} (hx : rootOf H p.x = x) (hy : rootOf H p.y = y) (hne : x ≠ y) (hk6 : kd H x ≠ 6) (hk : kd H x ≠ 5) (hk' : kd H y = 6) (hD : Den H t x) (hin : y ∈ trav H t x []) : Bad ⟨H, p :: Q, D⟩ 0 0 5
/-- What a round asks of the state at hand. -/
structure WOk (Lim : Nat) (σ : Wrk) : Prop where
  ex : ∀ p ∈ σ.P, (∃ t, Den σ.H t p.x ∧ Tp.size t ≤ 1000000) ∧ ∃ t, Den σ.H t p.y ∧ Tp.size t ≤ 1000000
  lev : ∀ (r : Nat) (d : SNd), σ.H[r]? = some d → 0 ≤ d.c.level
  len : σ.H.length ≤ 1000000
  nd : σ.D.length ≤ 4000000
  np : σ.P.length ≤ 4000000
  nodes : ∀ p ∈ σ.P, p.x < σ.H.length ∧ p.y < σ.H.length
  frx : ∀ p Q t, σ.P = p :: Q → p.fr = true → kd σ.H (rootOf σ.H p.x) = 6 → Den σ.H t (rootOf σ.H p.y) → rootOf σ.H p.x ≠ rootOf σ.H p.y → ¬ rootOf σ.H p.x ∈ trav σ.H t (rootOf σ.H p.y) []
  fry : ∀ p Q t, σ.P = p :: Q → p.fr = true → kd σ.H (rootOf σ.H p.y) = 6 → Den σ.H t (rootOf σ.H p.x) → rootOf σ.H p.x ≠ rootOf σ.H p.y → ¬ rootOf σ.H p.y ∈ trav σ.H t (rootOf σ.H p.x) []
  room : σ.H.length + 3 ≤ Lim
theorem Dens.nat {H : List SNd} : ∀ {l : List T} {xs : List Int}, Dens H l xs → xs = (xs.map Int.toNat).map fun (n : Nat) => (n : Int)
  | [], xs, h => by rw [show xs = [] from h]; rfl
  | t :: ts, xs, h => by
    obtain ⟨q, rest, rfl, _, h3⟩ := h
    rw [List.map_cons, List.map_cons, Int.toNat_natCast, ← Dens.nat h3]
/-- The kids of a root that stands for something are nodes. -/
theorem kids_nat {H : List SNd} {t : T} {r : Nat} {d : SNd} (h : Den H t r) (hd : H[r]? = some d) (hu : d.up = r) : kidL d.c.kind d.c.a d.c.b = (kdN H r).map fun (n : Nat) => (n : Int) := by
  obtain ⟨d', r', q1, q2, q3, q4, q5, q6⟩ := h.open
  rw [hd] at q1; injection q1 with q1; subst q1
  rw [hu, hd] at q2; injection q2 with q2; subst q2
  have h9 := Dens.nat q6
  unfold kdN Sg.kidsOf
  rw [hd]; exact h9
/-- A node's root. -/
theorem Den.rnode {H : List SNd} {t : T} {p : Nat} (h : Den H t p) : ∃ d dr : SNd, H[p]? = some d ∧ d.up = rootOf H p ∧ H[rootOf H p]? = some dr ∧ dr.up = rootOf H p ∧ Den H t (rootOf H p) ∧ dr.c.kind = t.kind := by
  obtain ⟨d, r, q1, q2, q3, q4, _⟩ := h.open
  have e : rootOf H p = d.up := by unfold Sg.rootOf; rw [q1]
  exact ⟨d, r, q1, e.symm, by rw [e]; exact q2, by rw [e]; exact q3, h.root.1, q4⟩
end Go.Proofs.Yteolbbgnkbcfmaa
