/- What the nodes of a store stand for, plainly: types; the way through all that is within a node. -/
import Derived.Test.YteolbbgnkbcfmaaStB
namespace Go.Proofs.Yteolbbgnkbcfmaa.Sg
open Tp (T)
/-- The root of a node. -/
def rootOf (H : List Nd) (p : Nat) : Nat := match H[p]? with | some d => d.up | none => p
/-- The kids of a root. -/
def kidsOf (H : List Nd) (r : Nat) : List Int := match H[r]? with | some d => kidL d.c.kind d.c.a d.c.b | none => []
mutual
/-- The node p is the type. -/
def Den (H : List Nd) : T → Nat → Prop
  | .mk k m l, p => ∃ d r, H[p]? = some d ∧ H[d.up]? = some r ∧ r.up = d.up ∧ r.c.kind = k ∧ m = (if k = 6 then (d.up : Int) else 0) ∧ Dens H l (kidL r.c.kind r.c.a r.c.b)
def Dens (H : List Nd) : List T → List Int → Prop
  | [], xs => xs = []
  | t :: ts, xs => ∃ (q : Nat) (rest : List Int), xs = (q : Int) :: rest ∧ Den H t q ∧ Dens H ts rest
end
theorem Den.open {H : List Nd} {t : T} {p : Nat} (h : Den H t p) : ∃ d r, H[p]? = some d ∧ H[d.up]? = some r ∧ r.up = d.up ∧ r.c.kind = t.kind ∧ t.num = (if t.kind = 6 then (d.up : Int) else 0) ∧ Dens H t.kids (kidL r.c.kind r.c.a r.c.b) := by
  cases t; exact h
theorem Den.root {H : List Nd} {t : T} {p : Nat} (h : Den H t p) : Den H t (rootOf H p) ∧ rootOf H (rootOf H p) = rootOf H p := by
  obtain ⟨d, r, hd, hr, hu, h1, h2, h3⟩ := h.open
  have e : rootOf H p = d.up := by unfold rootOf; rw [hd]
  have e2 : rootOf H d.up = d.up := by unfold rootOf; rw [hr]; exact hu
  rw [e, e2]
  refine ⟨?_, rfl⟩
  cases t with
  | mk k m l => exact ⟨r, r, hr, by rw [hu]; exact hr, rfl, h1, by rw [hu]; exact h2, h3⟩
theorem Dens.len {H : List Nd} : ∀ {l : List T} {xs : List Int}, Dens H l xs → l.length = xs.length
  | [], xs, h => by rw [show xs = [] from h]; rfl
  | t :: ts, xs, h => by
    obtain ⟨q, rest, rfl, _, h2⟩ := h
    simp [Dens.len h2]
theorem Dens.get {H : List Nd} : ∀ {l : List T} {xs : List Int}, Dens H l xs → ∀ (i : Nat) (hi : i < l.length) (hi' : i < xs.length), ∃ q : Nat, xs[i] = (q : Int) ∧ Den H l[i] q
  | [], xs, h, i, hi, _ => by simp at hi
  | t :: ts, xs, h, 0, _, _ => by
    obtain ⟨q, rest, rfl, h1, _⟩ := h
    exact ⟨q, rfl, h1⟩
  | t :: ts, xs, h, i + 1, hi, hi' => by
    obtain ⟨q, rest, rfl, _, h2⟩ := h
    exact Dens.get h2 i (by simpa using hi) (by simpa using hi')
mutual
theorem Den.det {H : List Nd} : ∀ {t u : T} {p q : Nat}, Den H t p → Den H u q → rootOf H p = rootOf H q → t = u
  | .mk k m l, .mk k' m' l', p, q, h, h', e => by
    obtain ⟨d, r, hd, hr, _, h1, h2, h3⟩ := h
    obtain ⟨d', r', hd', hr', _, h1', h2', h3'⟩ := h'
    have e1 : d.up = d'.up := by unfold rootOf at e; rw [hd, hd'] at e; exact e
    rw [e1, hr'] at hr; injection hr with hr; subst hr
    rw [h1] at h1'; subst h1'
    rw [e1] at h2; rw [h2, ← h2', Dens.det h3 h3']
theorem Dens.det {H : List Nd} : ∀ {l l' : List T} {xs : List Int}, Dens H l xs → Dens H l' xs → l = l'
  | [], [], _, _, _ => rfl
  | [], t :: ts, xs, h, h' => by obtain ⟨q, rest, e, _⟩ := h'; rw [show xs = [] from h] at e; cases e
  | t :: ts, [], xs, h, h' => by obtain ⟨q, rest, e, _⟩ := h; rw [show xs = [] from h'] at e; cases e
  | t :: ts, t' :: ts', xs, h, h' => by
    obtain ⟨q, rest, rfl, h1, h2⟩ := h
    obtain ⟨q', rest', e, h1', h2'⟩ := h'
    injection e with e1 e2
    have e3 : q' = q := by omega
    subst e3 e2
    rw [Den.det h1 h1' rfl, Dens.det h2 h2']
end
/-- All but the marks. -/
def bare (d : Nd) : Nd := { d with c := { d.c with met := 0 } }
def Alk (H H' : List Nd) : Prop := H.map bare = H'.map bare
theorem Alk.refl (H : List Nd) : Alk H H := rfl
theorem Alk.trans {A B C : List Nd} (h : Alk A B) (k : Alk B C) : Alk A C := Eq.trans h k
theorem Alk.symm {A B : List Nd} (h : Alk A B) : Alk B A := Eq.symm h
theorem Alk.len {A B : List Nd} (h : Alk A B) : A.length = B.length := by have := congrArg List.length h; simpa using this
theorem Alk.get {A B : List Nd} (h : Alk A B) {i : Nat} {d : Nd} (hd : A[i]? = some d) : ∃ e, B[i]? = some e ∧ e.up = d.up ∧ e.c.kind = d.c.kind ∧ e.c.level = d.c.level ∧ e.c.a = d.c.a ∧ e.c.b = d.c.b := by
  have h1 := congrArg (fun l => l[i]?) h
  simp only [List.getElem?_map, hd, Option.map_some] at h1
  cases he : B[i]? with
  | none => rw [he] at h1; cases h1
  | some e =>
    rw [he, Option.map_some] at h1
    injection h1 with h1
    obtain ⟨⟨k, l, a, b, m⟩, u⟩ := d
    obtain ⟨⟨k', l', a', b', m'⟩, u'⟩ := e
    simp only [bare, Nd.mk.injEq, Cr.mk.injEq] at h1
    obtain ⟨⟨rfl, rfl, rfl, rfl, _⟩, rfl⟩ := h1
    exact ⟨_, rfl, rfl, rfl, rfl, rfl, rfl⟩
theorem Alk.mark {A : List Nd} {i : Nat} {d : Nd} (hd : A[i]? = some d) (m : Int) : Alk A (A.set i { d with c := { d.c with met := m } }) := by
  unfold Alk
  rw [List.map_set]
  refine List.ext_getElem? fun j => ?_
  by_cases hj : i = j
  · subst hj
    rw [List.getElem?_set_self (by rw [List.length_map]; exact (List.getElem?_eq_some_iff.1 hd).1), List.getElem?_map, hd]
    rfl
  · rw [List.getElem?_set_ne hj]
theorem Alk.root {A B : List Nd} (h : Alk A B) (p : Nat) : rootOf A p = rootOf B p := by
  unfold rootOf
  cases hd : A[p]? with
  | some d => obtain ⟨e, he, hu, _⟩ := h.get hd; rw [he]; exact hu.symm
  | none =>
    cases he : B[p]? with
    | none => rfl
    | some e => obtain ⟨d, hd', _⟩ := h.symm.get he; rw [hd] at hd'; cases hd'
mutual
theorem Den.alk {A B : List Nd} (h : Alk A B) : ∀ {t : T} {p : Nat}, Den A t p → Den B t p
  | .mk k m l, p, ⟨d, r, hd, hr, hu, h1, h2, h3⟩ => by
    obtain ⟨d', hd', e1, _⟩ := h.get hd
    obtain ⟨r', hr', f1, f2, _, f4, f5⟩ := h.get hr
    refine ⟨d', r', hd', by rw [e1]; exact hr', by rw [f1, e1]; exact hu, by rw [f2]; exact h1, by rw [e1]; exact h2, ?_⟩
    rw [f2, f4, f5]; exact Dens.alk h h3
theorem Dens.alk {A B : List Nd} (h : Alk A B) : ∀ {l : List T} {xs : List Int}, Dens A l xs → Dens B l xs
  | [], _, e => e
  | _ :: _, _, ⟨q, rest, e, h1, h2⟩ => ⟨q, rest, e, Den.alk h h1, Dens.alk h h2⟩
end
mutual
/-- What is within a node, each root once, kids first, behind what was met. -/
def trav (H : List Nd) : T → Nat → List Nat → List Nat
  | .mk _ _ l, p, Y => if rootOf H p ∈ Y then Y else travs H l (kidsOf H (rootOf H p)) Y ++ [rootOf H p]
def travs (H : List Nd) : List T → List Int → List Nat → List Nat
  | [], _, Y => Y
  | _ :: _, [], Y => Y
  | t :: ts, x :: xs, Y => travs H ts xs (trav H t x.toNat Y)
end
theorem trav_in {H : List Nd} {t : T} {p : Nat} {Y : List Nat} (h : rootOf H p ∈ Y) : trav H t p Y = Y := by cases t; simp [trav, h]
theorem trav_out {H : List Nd} {t : T} {p : Nat} {Y : List Nat} (h : ¬ rootOf H p ∈ Y) : trav H t p Y = travs H t.kids (kidsOf H (rootOf H p)) Y ++ [rootOf H p] := by cases t; simp [trav, h, Tp.T.kids]
theorem travs_take {H : List Nd} : ∀ (l : List T) (xs : List Int) (Y : List Nat) (k : Nat) (hk : k < l.length) (hk' : k < xs.length), travs H (l.take (k + 1)) (xs.take (k + 1)) Y = trav H l[k] xs[k].toNat (travs H (l.take k) (xs.take k) Y)
  | [], _, _, k, hk, _ => by simp at hk
  | _ :: _, [], _, k, _, hk' => by simp at hk'
  | t :: ts, x :: xs, Y, 0, _, _ => by simp [travs]
  | t :: ts, x :: xs, Y, k + 1, hk, hk' => by
    have := travs_take (H := H) ts xs (trav H t x.toNat Y) k (by simpa using hk) (by simpa using hk')
    simp only [List.take_succ_cons, travs, List.getElem_cons_succ]
    exact this
mutual
theorem trav_pre {H : List Nd} : ∀ (t : T) (p : Nat) (Y : List Nat), ∃ Z, trav H t p Y = Y ++ Z
  | .mk k m l, p, Y => by
    by_cases h : rootOf H p ∈ Y
    · exact ⟨[], by rw [trav_in h, List.append_nil]⟩
    · obtain ⟨Z, hZ⟩ := travs_pre l (kidsOf H (rootOf H p)) Y
      exact ⟨Z ++ [rootOf H p], by rw [trav_out h]; show travs H l _ Y ++ _ = _; rw [hZ, List.append_assoc]⟩
theorem travs_pre {H : List Nd} : ∀ (l : List T) (xs : List Int) (Y : List Nat), ∃ Z, travs H l xs Y = Y ++ Z
  | [], _, Y => ⟨[], by simp [travs]⟩
  | _ :: _, [], Y => ⟨[], by simp [travs]⟩
  | t :: ts, x :: xs, Y => by
    obtain ⟨Z, hZ⟩ := trav_pre t x.toNat Y
    obtain ⟨Z2, hZ2⟩ := travs_pre ts xs (trav H t x.toNat Y)
    exact ⟨Z ++ Z2, by simp only [travs]; rw [hZ2, hZ, List.append_assoc]⟩
end
theorem trav_mem {H : List Nd} (t : T) (p : Nat) (Y : List Nat) : rootOf H p ∈ trav H t p Y := by
  by_cases h : rootOf H p ∈ Y
  · rw [trav_in h]; exact h
  · rw [trav_out h]; simp
theorem trav_keep {H : List Nd} {t : T} {p : Nat} {Y : List Nat} {i : Nat} (h : i ∈ Y) : i ∈ trav H t p Y := by
  obtain ⟨Z, hZ⟩ := trav_pre (H := H) t p Y
  rw [hZ]; exact List.mem_append_left _ h
/-- What was met bears the walk's number. -/
def Mkd (K : Int) (Y : Nat → Prop) (H : List Nd) : Prop := ∀ i d, H[i]? = some d → d.c.met ≤ K ∧ (d.c.met = K ↔ Y i)
theorem Mkd.iff {K : Int} {Y Z : Nat → Prop} {H : List Nd} (h : Mkd K Y H) (e : ∀ i, Y i ↔ Z i) : Mkd K Z H := fun i d hd => ⟨(h i d hd).1, (h i d hd).2.trans (e i)⟩
theorem Mkd.le {K : Int} {Y : Nat → Prop} {H : List Nd} (h : Mkd K Y H) : ∀ d ∈ H, d.c.met ≤ K := fun d hd => by
  obtain ⟨i, hi, rfl⟩ := List.getElem_of_mem hd
  exact (h i _ (List.getElem?_eq_getElem hi)).1
theorem Mkd.set {K : Int} {Y : Nat → Prop} {H : List Nd} (h : Mkd K Y H) {p : Nat} {d : Nd} (hd : H[p]? = some d) : Mkd K (fun i => Y i ∨ i = p) (H.set p { d with c := { d.c with met := K } }) := fun i e he => by
  by_cases hi : i = p
  · subst hi
    rw [set_same hd] at he; injection he with he; subst he
    exact ⟨Int.le_refl _, iff_of_true rfl (.inr rfl)⟩
  · rw [set_other _ hi] at he
    exact ⟨(h i e he).1, (h i e he).2.trans ⟨.inl, fun x => x.resolve_right hi⟩⟩
theorem Mkd.new {K : Int} {H : List Nd} (h : ∀ d ∈ H, d.c.met ≤ K) : Mkd (K + 1) (fun _ => False) H := fun i d hd => by
  have := h d (List.mem_of_getElem? hd)
  exact ⟨by omega, ⟨fun e => by omega, fun e => e.elim⟩⟩
end Go.Proofs.Yteolbbgnkbcfmaa.Sg
